/- The law DryBest, walked. -/
import Derived.Test.YtkofnhimgegcnaaFP
import Derived.Maps.RangeWalk
import Derived.Lib.SlKeysI
import Derived.BigRegion
import Derived.RegionTactic
import Derived.IntWalk
namespace Go.Proofs.Ytkofnhimgegcnaa
open Go Go.RowKit Go.Sort Go.Maps

theorem Sh.Full.congrN {q : Sh} {S T : Nat → Bool} {t : Nat → Nat} (h : q.Full S t) (e : ∀ i, i < q.n → S i = T i) : q.Full T t := by
  have ha : ∀ g, q.at T t g = q.at S t g := fun g => cntN_congr fun i hi => by simp only [e i hi]
  exact ⟨fun i hi hS => h.rdy i hi (by rw [e i hi]; exact hS), fun g => by rw [ha]; exact h.few g, fun i hi hS g h1 h2 => by
    obtain ⟨g1, g2⟩ := h.gre i hi (by rw [e i hi]; exact hS) g h1 h2
    exact ⟨by rw [ha]; exact g1, fun j hj hSj => g2 j hj (by rw [e j hj]; exact hSj)⟩, fun i hi hS => h.tim i hi (by rw [e i hi]; exact hS)⟩
theorem Rep.congrN {q : Sh} {S T : Nat → Bool} {t : Nat → Nat} {C : Nat → List Nat} (h : Rep q S t C) (e : ∀ i, i < q.n → S i = T i) : Rep q T t C := fun g => ⟨(h g).1, fun i => by
  rw [(h g).2]
  constructor
  · rintro ⟨a, b, c⟩; exact ⟨a, by rw [← e i a]; exact b, c⟩
  · rintro ⟨a, b, c⟩; exact ⟨a, by rw [e i a]; exact b, c⟩⟩

/-- What add does where the load fits, and where it doesn't. -/
def AddYes (q : Sh) (S : Nat → Bool) (bm n base : Nat) (w : World) (e : Ending) (w' : World) : Prop :=
  ∃ (t : Nat → Nat) (C : Nat → List Nat) (F : Int → Value), e = .returned (.bool true) ∧ q.Full S t ∧ Rep q S t C ∧ CrewsAt w' bm (n + 1) base C F ∧ Touch (fun k => k = bm ∨ base ≤ k) w w'
theorem add_yes {q : Sh} {S : Nat → Bool} {bm n base f : Nat} {args : Array Value} {w : World} {C0 : Nat → List Nat} {F0 : Int → Value} (h : Calls Try.prog f args w (AddGot q S bm n base F0 w)) (hC : CrewsAt w bm n base C0 F0) (hf : q.Fit S) : Calls Try.prog f args w (AddYes q S bm n base w) :=
  h.mono fun e w' hg => by
    rcases hg with ⟨t, C, F, a1, a2, a3, a4, a5, _⟩ | ⟨_, ho, _⟩
    · exact ⟨t, C, F, a1, a2, a3, a4, a5.mono fun k hk => hk.imp id fun hk => (hC.block hk).1⟩
    · exact absurd hf ho.none
theorem add_no {q : Sh} {S : Nat → Bool} {bm n base f : Nat} {args : Array Value} {w : World} {F0 : Int → Value} (h : Calls Try.prog f args w (AddGot q S bm n base F0 w)) (hf : q.Over S) : Calls Try.prog f args w fun e w' => e = .returned (.bool false) ∧ Adds w w' :=
  h.mono fun e w' hg => by
    rcases hg with ⟨t, C, F, _, h1, _⟩ | ⟨he, _, ha⟩
    · exact absurd h1.fit hf.none
    · exact ⟨he, ha⟩
theorem CrewsAt.made2 (w : World) (o : Obj) : CrewsAt ((w.alloc (.map #[] 0)).alloc o) w.heap.size 0 (w.heap.size + 2) (fun _ => []) (fun _ => nilV) :=
  ⟨(MapV.made w).later ((Adds.refl _).alloc o), by omega, fun _ _ => rfl, fun h c => absurd rfl c, fun h h' g n c n' c' e => by cases e⟩
theorem grown_set (w : World) (p : Addr) (u : Value) : w.grownBy (w.setCell p u) (some p.block) :=
  ⟨rfl, rfl, rfl, by simp [World.setCell], fun k _ hne => Below.heap_setCell _ _ _ _ (fun e => hne (by rw [e]))⟩

theorem CrewsAt.far {w : World} {bm n base : Nat} {C : Nat → List Nat} {F : Int → Value} (h : CrewsAt w bm n base C F) {p : Addr} (u : Value) (hb : bm ≠ p.block) (hg : ∀ j g m c, C j ≠ [] → F (j : Nat) = .slice (some ⟨g, 0, none⟩) m c → g ≠ p.block) : CrewsAt (w.setCell p u) bm n base C F :=
  ⟨h.map.same (Below.heap_setCell _ _ _ _ hb), h.low, h.empty, fun j hj => by
    obtain ⟨g, c, e1, e2, e3⟩ := h.row j hj
    exact ⟨g, c, e1, e2, e3.far (hg j g _ _ hj e1) u⟩, h.apart⟩

/-- Hours that are written. -/
def hoursT (t : Nat → Nat) (n : Nat) : List Int := (List.range n).map fun i => (t i : Int)
def EarlyGot (l : List Ld) (K : Nat) (w : World) (e : Ending) (w' : World) : Prop :=
  (∃ (c : Nat) (q : Option Addr) (t : Nat → Nat), e = .returned (.tuple #[.slice q l.length c, .int .i64 0]) ∧ (shOf l K).Full (fun _ => true) t ∧ w'.ownsRow w.heap.size 3 1 (.slice q l.length c) l.length ((hoursT t l.length).map (Value.int .i64)) ∧ Adds w w') ∨
  (e = .returned (.tuple #[nilV, .int .i64 70]) ∧ (shOf l K).Over (fun _ => true) ∧ Adds w w')

set_option maxRecDepth 100000 in
set_option maxHeartbeats 4000000 in
theorem Early_any (p : Option Addr) (cl K : Nat) (l : List Ld) (w : World) (hL : LoadsAt w p l) (hl : l.length ≤ 256) (hok : ∀ x ∈ l, okB x = true) (hsh : l.any longB = false) (hK : 1 ≤ K ∧ K ≤ 64) :
    Calls Try.prog 29 #[.slice p l.length cl, .int .i64 K] w (EarlyGot l K w) := by
  have hck := checkShort_any p cl l K w hl hL hok (by omega) false hsh
  have HCK := Lib.hid hck
  have hadd := fun (bm n base z : Nat) (W : World) (hW : Adds w W) (hz : z < l.length) (W0 : Nat → Bool) (t0 : Nat → Nat) (C0 : Nat → List Nat) (F0 : Int → Value) (hF : (shOf l K).Full W0 t0) (hR : Rep (shOf l K) W0 t0 C0) (ho : W0 z = false) (hC : CrewsAt W bm n base C0 F0) (hb : base ≤ W.heap.size) (hn : n ≤ 1000) =>
    add_rota p cl bm n base z K l W (hL.later hW) hl hok hK.1 (by omega) hz hF hR ho hC hb hn
  unfold EarlyGot
  obtain ⟨q, hq⟩ : ∃ q, q = shOf l K := ⟨_, rfl⟩
  have hqn : q.n = l.length := by rw [hq]; rfl
  have hlt : ∀ i, i < q.n → q.r i < q.d i := by rw [hq]; exact shOf_lt (fun x hx => okB_okN (hok x hx))
  have hdb : ∀ i, i < l.length → q.d i ≤ 1000000 := fun i hi => by
    obtain ⟨y, hy⟩ : ∃ y, l[i]? = some y := ⟨_, List.getElem?_eq_getElem hi⟩
    have := okB_iff.1 (hok y (List.mem_of_getElem? hy))
    have h2 := shOf_d (K := K) hy (by omega)
    rw [← hq] at h2
    omega
  simp only [← hq] at hadd ⊢
  obtain ⟨N, hN⟩ : ∃ N, N = l.length := ⟨_, rfl⟩
  rw [← hN] at hl hqn hdb HCK ⊢
  simp only [← hN] at hadd
  have HADD := Lib.hid hadd
  have HQN := Lib.hid hqn
  have HLT := Lib.hid hlt
  have HDB := Lib.hid hdb
  have hmm := @run_makeMap Try.prog
  clear hck hadd hqn hlt hdb hN hq hsh hL hok
  go_enter Try.func29, Try.ntmps29
  go_upto_region 6 with (first
    | (go_at_call 65; refine HCK.out.mono ?_; rintro e w1 ⟨rfl, hb1⟩; have HB1 := Lib.hid hb1; clear hb1)
    | go_in)
  obtain ⟨bm, hbm⟩ : ∃ b, b = w1.heap.size := ⟨_, rfl⟩
  obtain ⟨W2, hW2⟩ : ∃ V, V = (w1.alloc (.map #[] 0)).alloc (.cells #[.slice p N cl, .int .i64 (K : Int), .map (some w1.heap.size)] 114) := ⟨_, rfl⟩
  have hC2 : CrewsAt W2 bm 0 (bm + 2) (fun _ => []) (fun _ => nilV) := by rw [hW2, hbm]; exact CrewsAt.made2 _ _
  have hX2 : Box W2 (bm + 1) #[.slice p N cl, .int .i64 (K : Int), .map (some bm)] 114 := by
    rw [hW2, hbm]
    have := Box.new (w1.alloc (.map #[] 0)) #[.slice p N cl, .int .i64 (K : Int), .map (some w1.heap.size)] 114
    rw [World.size_alloc] at this
    exact this
  have hA2 : Adds w W2 := by rw [hW2]; exact (HB1.out.alloc _).alloc _
  have hs2 : W2.heap.size = bm + 2 := by rw [hW2, hbm]; simp
  rw [← hW2, ← hbm]
  have HC2 := Lib.hid hC2
  have HX2 := Lib.hid hX2
  have HA2 := Lib.hid hA2
  have hbw : w.heap.size ≤ bm := by have := HB1.out.size; omega
  have hs2' : bm + 2 ≤ W2.heap.size := by omega
  clear hC2 hX2 hA2 hW2 hbm hs2 hmm
  go_loopw [26] (fun v26 wr => ∃ (k : Nat) (t : Nat → Nat) (C : Nat → List Nat) (F : Int → Value), k ≤ N ∧ v26 = .int .i64 k ∧ Hid (q.Full (fun i => decide (i < k)) t) ∧ Hid (Rep q (fun i => decide (i < k)) t C) ∧ Hid (CrewsAt wr bm k (bm + 2) C F) ∧ Hid (Box wr (bm + 1) #[.slice p N cl, .int .i64 (K : Int), .map (some bm)] 114) ∧ Hid (Adds w wr) ∧ bm + 2 ≤ wr.heap.size) (fun v26 _ => N - (intOf v26).toNat)
  case atStart => exact ⟨0, fun _ => 0, fun _ => [], fun _ => nilV, by omega, rfl, Lib.hid ((Sh.Full.none q _).congr (fun i => by simp)), Lib.hid ((Rep.none q _).congrN (fun i _ => by simp)), HC2, HX2, HA2, hs2'⟩
  case round =>
    clear HC2 HX2 HA2 hs2'
    obtain ⟨k, t, C, F, hk, rfl, HFU, HRE, HCR, HBX, HAD, hsz⟩ := hrel
    by_cases hkn : k < N
    · have hkn2 : (k : Int) < (N : Int) := by omega
      have hput : ∀ i, i < q.n → putS (fun i => decide (i < k)) k i = decide (i < k + 1) := fun i _ => by
        by_cases e : i = k
        · subst e; simp [putS]
        · have hb2 : (i == k) = false := by simpa using e
          have : (decide (i < k)) = (decide (i < k + 1)) := by rw [decide_eq_decide]; omega
          simp [putS, hb2, this]
      have hcl := HADD.out bm k (bm + 2) k wr HAD.out hkn _ t C F HFU.out HRE.out (by simp) HCR.out hsz (by omega)
      have HPUT := Lib.hid hput
      have b0 : wr.cell? ⟨bm + 1, 0, none⟩ = some (.slice p N cl) := HBX.out.cell 0
      have b1 : wr.cell? ⟨bm + 1, 1, none⟩ = some (.int .i64 (K : Int)) := HBX.out.cell 1
      have b2 : wr.cell? ⟨bm + 1, 2, none⟩ = some (.map (some bm)) := HBX.out.cell 2
      rcases q.full_or HLT.out (putS (fun i => decide (i < k)) k) with ⟨t', hf⟩ | hov
      · have hyes := add_yes hcl HCR.out hf.fit
        have HY := Lib.hid hyes
        clear hyes hcl hput hf
        go_upto_region 10 with (go_at_call 66; refine HY.out.mono ?_; rintro e w3 ⟨t3, C3, F3, rfl, h1, h2, h3, h4⟩; have HF3 := Lib.hid h1; have HR3 := Lib.hid h2; have HC3 := Lib.hid h3; have HT3 := Lib.hid h4; clear h1 h2 h3 h4)
        have hbl := HBX.out.lt
        have HX3 : Hid (Box w3 (bm + 1) #[.slice p N cl, .int .i64 (K : Int), .map (some bm)] 114) := Lib.hid (HBX.out.same (HT3.out.same _ hbl (by omega)))
        have HA3 : Hid (Adds w w3) := Lib.hid (Touch.adds HAD.out HT3.out (fun i hi => by omega))
        have hs3 : bm + 2 ≤ w3.heap.size := by have := HT3.out.size; omega
        clear b0 b1 b2
        go_wp2
        exact ⟨⟨k + 1, t3, C3, F3, by omega, by go_num, Lib.hid (HF3.out.congrN HPUT.out), Lib.hid (HR3.out.congrN HPUT.out), HC3, HX3, HA3, hs3⟩, by simp [intOf]; omega⟩
      · have hno := add_no hcl hov
        have HNO := Lib.hid hno
        have HOV : Hid (q.Over (fun _ => true)) := Lib.hid (hov.more fun i _ _ => rfl)
        clear hno hcl hput hov
        go_wp2_with (go_at_call 66; refine HNO.out.mono ?_; rintro e w3 ⟨rfl, h4⟩; have HT3 := Lib.hid h4; clear h4)
        go_ret2
        exact Or.inr ⟨rfl, HOV.out, HAD.out.trans HT3.out⟩
    · have hkk : k = N := by omega
      subst hkk
      have hkq : decide ((k : Int) < (k : Int)) = false := by simp
      have hall : ∀ i, i < q.n → decide (i < k) = true := fun i hi => by rw [HQN.out] at hi; simpa using hi
      have HF2 := Lib.hid (HFU.out.congrN (T := fun _ => true) hall)
      have HR2 := Lib.hid (HRE.out.congrN (T := fun _ => true) hall)
      obtain ⟨j0, hj, hj0, hj1, hj2⟩ := info_parts info3
      have HJ := Lib.hid hj
      have HJ0 := Lib.hid hj0
      have HJ1 := Lib.hid hj1
      have HJ2 := Lib.hid hj2
      clear hj hj0 hj1 hj2 hall HFU HRE
      go_upto_region 12 with (first
        | (refine wpList_make_full _ rfl _ _ 35 rfl wr.heap.size 3 j0 (.int .i64 0) 1 Try.underlying35 HJ.out HJ0.out HJ1.out .i64 .i64 (k : Int) (k : Int) k rfl rfl rfl rfl (by rw [HJ2.out]; omega) (by unfold maxLen; omega) (Nat.le_refl _) ?_; intro W5 ho5 hg5; have HO5 := Lib.hid ho5; have HG5 := Lib.hid hg5; clear ho5 hg5)
        | go_in)
      obtain ⟨gh, hgh⟩ : ∃ g, g = wr.heap.size := ⟨_, rfl⟩
      rw [← hgh] at HO5 ⊢
      have hrow5 : RowI 3 .i64 W5 gh k (List.replicate k 0) := by
        obtain ⟨_, hr⟩ := own_rowI (made_row HO5.out)
        rcases hr with ⟨hr, _⟩ | ⟨g1, c1, er, _, hrow⟩
        · cases hr
        · rw [List.length_replicate] at er
          simp only [Value.slice.injEq, Option.some.injEq, Addr.mk.injEq, and_true, true_and] at er
          obtain ⟨rfl, rfl⟩ := er
          exact hrow
      have hA5 : Adds wr W5 := Below.grown (Adds.refl _) HG5.out (Nat.le_refl _) (fun j hj => by cases hj)
      have HC5 := Lib.hid (HCR.out.later hA5)
      have HX5 := Lib.hid (HBX.out.later hA5)
      have HA5 := Lib.hid (HAD.out.trans hA5)
      have b2 : W5.cell? ⟨bm + 1, 2, none⟩ = some (.map (some bm)) := HX5.out.cell 2
      have hgs : bm + 2 ≤ gh := by omega
      have hgw : w.heap.size ≤ gh := by omega
      have hgh5 := hrow5.lt
      obtain ⟨D, hown, hat, hhas⟩ := HC5.out.map
      have HROW := Lib.hid hrow5
      have HOWN := Lib.hid hown
      have HATS := Lib.hid hat
      have HHAS := Lib.hid hhas
      have HGH := Lib.hid hgh
      have HCB := HCR
      clear hA5 hrow5 hown hat hhas HBX hgh HO5 HG5 hsz
      go_wp2_with (first
        | (at_range; refine wpList_range_own _ rfl _ 112 rfl 3 35 law3m und112 heldR bm k D rfl HOWN.out ?_; intro w0 hrg0 hg0 hs0)
        | go_in)
      go_frame
      obtain ⟨r, hr⟩ : ∃ r, r = W5.heap.size := ⟨_, rfl⟩
      rw [← hr] at hrg0 hs0 ⊢
      have hgr : gh < r := by rw [hr]; exact hgh5
      have hA0 : Adds W5 w0 := Below.grown (Adds.refl _) hg0 (Nat.le_refl _) (fun j hj => by cases hj)
      have HRG0 := Lib.hid hrg0
      have HA0 := Lib.hid hA0
      have hs0' : r < w0.heap.size := by omega
      clear hrg0 hg0 hs0 hA0 hr
      go_loopw [10] (fun _ wr => ∃ (left : Lit → Bool) (cnt : Nat) (H : List Int), Hid (wr.ranges Try.prog 3 heldR bm r k D left cnt) ∧ Hid (RowI 3 .i64 wr gh k H) ∧ H.length = k ∧ Hid (∀ i v, H[i]? = some v → left (.int .i64 (t i : Int)) = false → v = (t i : Int)) ∧ Hid (CrewsAt wr bm k (bm + 2) C F) ∧ Hid (Adds w wr) ∧ r < wr.heap.size) (fun _ wr => wr.rangeLeft bm r)
      case atStart => exact ⟨_, _, List.replicate k 0, HRG0, Lib.hid (HROW.out.later HA0.out), by simp, Lib.hid (fun i v hi hl => by
        exfalso
        have hik : i < k := by have := (List.getElem?_eq_some_iff.1 hi).1; simpa using this
        have hmem : i ∈ C (t i) := ((HR2.out (t i)).2 i).2 ⟨by rw [HQN.out]; exact hik, rfl, rfl⟩
        have hne : C (t i) ≠ [] := fun e => by rw [e] at hmem; simp at hmem
        obtain ⟨g1, c1, e1, _⟩ := HC5.out.row (t i) hne
        have := (HHAS.out (t i : Int)).2 (by rw [e1]; intro e; cases e)
        rw [this] at hl
        cases hl), Lib.hid (HC5.out.later HA0.out), Lib.hid (HA5.out.trans HA0.out), hs0'⟩
      case round => as_aux_lemma =>
        obtain ⟨left, cnt, H, HRG, HRW, hHl, HDN, HCW, HAW, hrl⟩ := hrel
        have hrg := HRG.out
        go_wp2_with (first
          | (at_next; refine wpList_next_ranges _ rfl _ rfl 3 law3m heldR (Value.int .i64) id (fun key kl hk => by obtain ⟨x, hx, _⟩ := Maps.keyOf_i64 Try.underlying3 hk; exact ⟨x, hx⟩) (fun v _ _ => ⟨v, rfl⟩) bm r k _ _ _ rfl hrg ?_ ?_)
          | go_in)
        · intro hc0 hl0
          have HL0 := Lib.hid hl0
          clear hl0 hrg
          go_wp2
          go_ret2
          refine Or.inl ⟨k, some ⟨gh, 0, none⟩, t, rfl, HF2.out, ?_, HAW.out⟩
          have hH : H = hoursT t k := by
            refine List.ext_getElem? fun i => ?_
            by_cases hik : i < k
            · obtain ⟨v, hv⟩ : ∃ v, H[i]? = some v := ⟨_, List.getElem?_eq_getElem (by omega)⟩
              rw [hv, HDN.out i v hv (HL0.out _)]
              unfold hoursT
              rw [List.getElem?_map, List.getElem?_range hik]
              rfl
            · rw [List.getElem?_eq_none (by omega), List.getElem?_eq_none (by unfold hoursT; simp; omega)]
          have := HRW.out.own (base := w.heap.size) hgw
          rw [hHl, hH] at this
          exact this
        · intro x c kl yd yp w2 cnt2 hkey hlk hv hat hrg2 hltc hg2 hs2 hen
          obtain ⟨x', ex, rfl, hwfx⟩ := Maps.keyOf_i64 Try.underlying3 hkey
          obtain rfl : x = x' := encZ_inj ex
          have hcF : c = F x := by
            have h1 := hat (.held nilV)
            rw [HATS.out] at h1
            simp only [heldR, Option.some.injEq, Prod.mk.injEq] at hv
            rw [← hv.1] at h1
            exact (DataW.held.inj h1).symm
          have hFn : F x ≠ nilV := fun e => by
            have h2 : Maps.has D (.int .i64 x) = true := has_true_of_atKey hat
            exact (HHAS.out x).1 h2 e
          obtain ⟨h, hxh, hne⟩ : ∃ h : Nat, x = h ∧ C h ≠ [] := by
            apply Classical.byContradiction
            intro hno
            exact hFn (HCW.out.empty x fun h e => Classical.byContradiction fun e2 => hno ⟨h, e, e2⟩)
          subst hxh
          obtain ⟨gc, cc, e1, e2, e3⟩ := HCW.out.row h hne
          rw [hcF, e1] at hen ⊢
          obtain ⟨m, hm⟩ : ∃ m, m = (C h).length := ⟨_, rfl⟩
          rw [← hm] at hen ⊢
          have e1' := Lib.hid e1
          have hm256 : m ≤ 256 := by
            have e5 : m ≤ q.n := by rw [hm, HR2.out.len h]; exact cntN_bd _ _
            have := HQN.out
            omega
          have hA2 : ∀ b, b ≠ r → b < wr.heap.size → w2.heap[b]? = wr.heap[b]? := fun b hb hb2 => hg2.block b hb2 (by simpa using hb)
          have hgcb := e3.lt
          have hrw2 := HRW.out.same (hA2 gh (by omega) HRW.out.lt)
          have hcne : gc ≠ r := fun e => by
            subst e
            obtain ⟨cur, q1, _⟩ := e3
            obtain ⟨_, _, _, seen, c0, _, _, _, _, q2, _⟩ := hrg
            rw [q1] at q2
            cases q2
          have hrowc := e3.same (hA2 gc hcne hgcb)
          have hgcg : gc ≠ gh := fun e => by
            have h5 := (HC5.out.row h hne)
            obtain ⟨g5, c5, r1, r2, r3⟩ := (HCB.out.row h hne)
            rw [e1] at r1
            simp only [Value.slice.injEq, Option.some.injEq, Addr.mk.injEq, and_true] at r1
            have := r3.lt
            have := HGH.out
            omega
          have hCW2 : CrewsAt w2 bm k (bm + 2) C F := by
            refine ⟨HCW.out.map.same (hA2 bm (by omega) HCW.out.map.lt), HCW.out.low, HCW.out.empty, fun j hj => ?_, HCW.out.apart⟩
            obtain ⟨g1, c1, r1, r2, r3⟩ := HCW.out.row j hj
            refine ⟨g1, c1, r1, r2, r3.same (hA2 g1 (fun e => ?_) r3.lt)⟩
            subst e
            obtain ⟨cur, q1, _⟩ := r3
            obtain ⟨_, _, _, seen, c0, _, _, _, _, q2, _⟩ := hrg
            rw [q1] at q2
            cases q2
          have hAw2 : Adds w w2 := Below.grown HAW.out hg2 HAW.out.size (fun j hj => by cases hj; omega)
          have HRG2 := Lib.hid hrg2
          have HRW2 := Lib.hid hrw2
          have HRC2 := Lib.hid hrowc
          have HCW2 := Lib.hid hCW2
          have HAW2 := Lib.hid hAw2
          have HM := Lib.hid hm
          have HLT2 := Lib.hid hltc
          have hrl2 : r < w2.heap.size := by omega
          have HRL := Lib.hid (hrg.left_eq)
          clear hrg2 hrw2 hrowc hCW2 hAw2 hm hltc hkey hlk hv hat hcF hFn hne e1 e3 hs2 hg2 hA2 HRW HCW HAW hrl hrg HRG hgcb ex
          go_upto_region 16 with fail
          go_loopw [47] (fun v47 wr => ∃ (j : Nat) (H2 : List Int), j ≤ m ∧ v47 = .int .i64 j ∧ Hid (wr.ranges Try.prog 3 heldR bm r k D (fun z => left z && !z.sameKey (.int .i64 (h : Int))) cnt2) ∧ Hid (RowI 3 .i64 wr gh k H2) ∧ H2.length = k ∧ Hid (∀ i v, H2[i]? = some v → (left (.int .i64 (t i : Int)) = false → t i ≠ h → v = (t i : Int)) ∧ (i ∈ (C h).take j → v = (t i : Int))) ∧ Hid (CrewsAt wr bm k (bm + 2) C F) ∧ Hid (Adds w wr) ∧ r < wr.heap.size) (fun v47 _ => m - (intOf v47).toNat)
          case atStart => exact ⟨0, H, by omega, rfl, HRG2, HRW2, hHl, Lib.hid (fun i v hi => ⟨fun h1 _ => HDN.out i v hi h1, fun hm => by simp at hm⟩), HCW2, HAW2, hrl2⟩
          case round => as_aux_lemma =>
            clear HRG2 HRW2 HCW2 HAW2 hrl2 HDN HRC2
            obtain ⟨j, H2, hjm, rfl, HRGJ, HRWJ, hH2, HDJ, HCWJ, HAWJ, hrlj⟩ := hrel
            by_cases hlt : j < m
            · have hlt2 : (j : Int) < (m : Int) := by omega
              obtain ⟨i0, hi0⟩ : ∃ i0, (C h)[j]? = some i0 := ⟨_, List.getElem?_eq_getElem (by have := HM.out; omega)⟩
              obtain ⟨i1, _, i3⟩ := HR2.out.get hi0
              rw [HQN.out] at i1
              have i12 : (i0 : Int) < (k : Int) := by omega
              have hne : C h ≠ [] := fun e => by rw [e] at hi0; simp at hi0
              obtain ⟨g1, c1, r1, r2, r3⟩ := HCWJ.out.row h hne
              rw [e1'.out] at r1
              simp only [Value.slice.injEq, Option.some.injEq, Addr.mk.injEq, and_true] at r1
              obtain ⟨rfl, -, rfl⟩ := r1
              have kc : wr.cell? ⟨gc, j, none⟩ = some (.int .i64 (i0 : Int)) := r3.cell (numsI_get hi0)
              obtain ⟨v0, hv0⟩ : ∃ v0, H2[i0]? = some v0 := ⟨_, List.getElem?_eq_getElem (by omega)⟩
              have kh : wr.cell? ⟨gh, i0, none⟩ = some (.int .i64 v0) := HRWJ.out.cell hv0
              have kf : wr.frozen? ⟨gh, i0, none⟩ = false := HRWJ.out.free i0
              have HI0 := Lib.hid hi0
              have HI3 := Lib.hid i3
              clear hi0 i3 hne r3 hv0 r2
              go_wp2
              refine ⟨⟨j + 1, H2.set i0 (h : Int), by omega, by go_num, Lib.hid (HRGJ.out.kept (grown_set _ ⟨gh, i0, none⟩ _) (by simp; omega) (by simp; omega)), Lib.hid (HRWJ.out.put i0 (h : Int)), by rw [List.length_set]; exact hH2, Lib.hid (fun i v hi => ?_), Lib.hid (HCWJ.out.far _ (by simp; omega) (fun j2 g2 m2 c2 hj2 hf2 => ?_)), Lib.hid (HAWJ.out.set (p := ⟨gh, i0, none⟩) hgw _), by simp [World.setCell]; exact hrlj⟩, by simp [intOf]; omega⟩
              · by_cases e : i = i0
                · subst e
                  have hv : v = (h : Int) := by
                    have hl := (List.getElem?_eq_some_iff.1 hi).1
                    rw [List.length_set] at hl
                    rw [List.getElem?_set_self hl] at hi
                    exact (Option.some.inj hi).symm
                  rw [hv, HI3.out]
                  exact ⟨fun _ hn => absurd rfl hn, fun _ => rfl⟩
                · rw [List.getElem?_set_ne (fun h => e h.symm)] at hi
                  obtain ⟨d1, d2⟩ := HDJ.out i v hi
                  refine ⟨d1, fun hm2 => ?_⟩
                  obtain ⟨a1, a2⟩ := List.getElem?_eq_some_iff.1 HI0.out
                  rw [List.take_succ_eq_append_getElem a1, a2] at hm2
                  rcases List.mem_append.1 hm2 with h5 | h5
                  · exact d2 h5
                  · exact absurd (by simpa using h5) e
              · obtain ⟨g5, c5, q1, q2, q3⟩ := HCB.out.row j2 hj2
                rw [hf2] at q1
                simp only [Value.slice.injEq, Option.some.injEq, Addr.mk.injEq, and_true] at q1
                have := q3.lt
                have := HGH.out
                show g2 ≠ gh
                omega
            · have hjj : j = m := by omega
              subst hjj
              have hkq2 : decide ((j : Int) < (j : Int)) = false := by simp
              go_wp2
              refine ⟨⟨_, cnt2, H2, HRGJ, HRWJ, hH2, Lib.hid (fun i v hi hl => ?_), HCWJ, HAWJ, hrlj⟩, ?_⟩
              · obtain ⟨d1, d2⟩ := HDJ.out i v hi
                by_cases e : t i = h
                · refine d2 ?_
                  rw [List.take_of_length_le (by have := HM.out; omega)]
                  exact ((HR2.out h).2 i).2 ⟨by have := (List.getElem?_eq_some_iff.1 hi).1; have := HQN.out; omega, rfl, e⟩
                · refine d1 ?_ e
                  have hsk : (Lit.int .i64 (t i : Int)).sameKey (.int .i64 (h : Int)) = false := sameKey_ne (fun x => by cases x; exact e rfl)
                  simpa [hsk] using hl
              · have h1 := HRGJ.out.left_eq
                have h2 := HRL.out
                have h3 := HLT2.out
                rw [h1, h2]
                exact h3
end Go.Proofs.Ytkofnhimgegcnaa

namespace Go.Proofs.Ytkofnhimgegcnaa
open Go Go.RowKit Go.Sort Go.Maps

/-- A set as a slice of the call's own. -/
def BoolsAt (w : World) (ps : Option Addr) (n : Nat) (S : Nat → Bool) : Prop := ∀ i, i < n → ∃ g, ps = some ⟨g, 0, none⟩ ∧ w.cell? ⟨g, i, none⟩ = some (.bool (S i))
theorem BoolsAt.later {w w' : World} {ps : Option Addr} {n : Nat} {S : Nat → Bool} (h : BoolsAt w ps n S) (ha : Adds w w') : BoolsAt w' ps n S := fun i hi => by
  obtain ⟨g, e, c⟩ := h i hi
  exact ⟨g, e, keep_cell ha c⟩
/-- The hours of those that are done, -1 for the others. -/
def outT (dn : Nat → Bool) (t : Nat → Nat) (n : Nat) : List Int := (List.range n).map fun i => if dn i = true then (t i : Int) else -1
theorem outT_len (dn : Nat → Bool) (t : Nat → Nat) (n : Nat) : (outT dn t n).length = n := by simp [outT]
theorem outT_get {dn : Nat → Bool} {t : Nat → Nat} {n i : Nat} (h : i < n) : (outT dn t n)[i]? = some (if dn i = true then (t i : Int) else -1) := by
  unfold outT
  rw [List.getElem?_map, List.getElem?_range h]
  rfl
theorem outT_put (dn : Nat → Bool) (t : Nat → Nat) {n b : Nat} (h : Nat) (hb : b < n) : (outT dn t n).set b (h : Int) = outT (putS dn b) (setT t b h) n := by
  refine List.ext_getElem? fun i => ?_
  by_cases hi : i < n
  · rw [outT_get hi]
    by_cases e : i = b
    · subst e
      rw [List.getElem?_set_self (by rw [outT_len]; exact hi)]
      simp [putS, setT]
    · rw [List.getElem?_set_ne (fun h => e h.symm), outT_get hi]
      have hb2 : (i == b) = false := by simpa using e
      simp [putS, setT, e, hb2]
  · rw [List.getElem?_eq_none (by rw [List.length_set, outT_len]; omega), List.getElem?_eq_none (by rw [outT_len]; omega)]
theorem outT_none (t : Nat → Nat) (n : Nat) : outT (fun _ => false) t n = List.replicate n (-1) := by
  refine List.ext_getElem? fun i => ?_
  by_cases hi : i < n
  · rw [outT_get hi, List.getElem?_replicate, if_pos hi]
    simp
  · rw [List.getElem?_eq_none (by rw [outT_len]; omega), List.getElem?_eq_none (by simp; omega)]
theorem outT_congr {dn S : Nat → Bool} (t : Nat → Nat) {n : Nat} (h : ∀ i, i < n → dn i = S i) : outT dn t n = outT S t n := by
  refine List.ext_getElem? fun i => ?_
  by_cases hi : i < n
  · rw [outT_get hi, outT_get hi, h i hi]
  · rw [List.getElem?_eq_none (by rw [outT_len]; omega), List.getElem?_eq_none (by rw [outT_len]; omega)]
theorem mix_set (k m : Nat) : (List.replicate k (-1 : Int) ++ List.replicate (m + 1) 0).set k (-1) = List.replicate (k + 1) (-1) ++ List.replicate m 0 := by
  rw [List.set_append_right _ _ (by simp), List.length_replicate, Nat.sub_self, List.replicate_succ, List.set_cons_zero, List.replicate_succ', List.append_assoc]
  rfl

/-- How many are still to come. -/
def leftN (n : Nat) (S dn : Nat → Bool) : Nat := cntN n (fun i => S i && !dn i)
theorem leftN_some {n : Nat} {S dn : Nat → Bool} (h : 0 < leftN n S dn) : ∃ i, i < n ∧ S i = true ∧ dn i = false := by
  apply Classical.byContradiction
  intro hno
  have : leftN n S dn = 0 := cntN_none fun i hi => by
    cases hS : S i with
    | false => rfl
    | true =>
      cases hd : dn i with
      | true => rfl
      | false => exact absurd ⟨i, hi, hS, hd⟩ hno
  omega
theorem leftN_put {n : Nat} {S dn : Nat → Bool} {b : Nat} (hb : b < n) (hS : S b = true) (hd : dn b = false) : leftN n S dn = leftN n S (putS dn b) + 1 :=
  cntN_put hb (fun i _ hne => by
    have hb2 : (i == b) = false := by simpa using hne
    simp [putS, hb2]) (by simp [putS]) (by simp [hS, hd])
theorem leftN_zero {n : Nat} {S dn : Nat → Bool} (h : leftN n S dn = 0) : ∀ i, i < n → S i = true → dn i = true := fun i hi hS => by
  cases hd : dn i with
  | true => rfl
  | false =>
    have := leftN_put hi hS hd
    omega
theorem Sh.Part.skip2 {q : Sh} {S dn : Nat → Bool} {t : Nat → Nat} {H H' : Nat} (a : q.Part S H dn t) (hH : H ≤ H') (hn : ∀ i, i < q.n → S i = true → dn i = false → H' ≤ max H (q.r i)) : q.Part S H' dn t := by
  by_cases e : H' = H
  · subst e; exact a
  · exact a.skip hH fun i hi hS hd => by have := hn i hi hS hd; omega

/-- The next hour in which a load can come, of the first k. -/
def NextOf (q : Sh) (S dn : Nat → Bool) (H k x : Nat) : Prop := (∀ i, i < k → S i = true → dn i = false → x ≤ max H (q.r i)) ∧ (x = 1000000 ∨ ∃ i, i < k ∧ S i = true ∧ dn i = false ∧ x = max H (q.r i)) ∧ x ≤ 1000000
theorem NextOf.keep {q : Sh} {S dn : Nat → Bool} {H k x : Nat} (a : NextOf q S dn H k x) (h : ¬ (S k = true ∧ dn k = false)) : NextOf q S dn H (k + 1) x := by
  obtain ⟨a1, a2, a3⟩ := a
  refine ⟨fun i hi hS hd => ?_, ?_, a3⟩
  · by_cases e : i = k
    · subst e; exact absurd ⟨hS, hd⟩ h
    · exact a1 i (by omega) hS hd
  · rcases a2 with e | ⟨i, i1, i2, i3, i4⟩
    · exact .inl e
    · exact .inr ⟨i, by omega, i2, i3, i4⟩
theorem NextOf.turn {q : Sh} {S dn : Nat → Bool} {H k x : Nat} (a : NextOf q S dn H k x) (hS : S k = true) (hd : dn k = false) : NextOf q S dn H (k + 1) (min x (max H (q.r k))) := by
  obtain ⟨a1, a2, a3⟩ := a
  refine ⟨fun i hi hS hd => ?_, ?_, by omega⟩
  · by_cases e : i = k
    · subst e; omega
    · have := a1 i (by omega) hS hd; omega
  · by_cases c : x ≤ max H (q.r k)
    · rw [Nat.min_eq_left c]
      rcases a2 with e | ⟨i, i1, i2, i3, i4⟩
      · exact .inl e
      · exact .inr ⟨i, by omega, i2, i3, i4⟩
    · exact .inr ⟨k, by omega, hS, hd, by omega⟩

/-- The load that is dried next, of the first k that can be; -1 if there is none. -/
def BestOf (q : Sh) (S dn : Nat → Bool) (H k : Nat) (x : Int) : Prop :=
  (x = -1 ∧ ∀ i, i < k → S i = true → dn i = false → H < q.r i) ∨ ∃ b : Nat, x = b ∧ b < k ∧ S b = true ∧ dn b = false ∧ q.r b ≤ H ∧ ∀ i, i < k → S i = true → dn i = false → q.r i ≤ H → i ≠ b → q.lt b i
theorem BestOf.keep {q : Sh} {S dn : Nat → Bool} {H k : Nat} {x : Int} (a : BestOf q S dn H k x) (h : ¬ (S k = true ∧ dn k = false ∧ q.r k ≤ H) ∨ ∃ b : Nat, x = b ∧ q.lt b k) : BestOf q S dn H (k + 1) x := by
  rcases a with ⟨rfl, a⟩ | ⟨b, rfl, b1, b2, b3, b4, b5⟩
  · refine .inl ⟨rfl, fun i hi hS hd => ?_⟩
    by_cases e : i = k
    · subst e
      rcases h with h | ⟨b, hb, _⟩
      · by_cases c : q.r i ≤ H
        · exact absurd ⟨hS, hd, c⟩ h
        · omega
      · omega
    · exact a i (by omega) hS hd
  · refine .inr ⟨b, rfl, by omega, b2, b3, b4, fun i hi hS hd hr hne => ?_⟩
    by_cases e : i = k
    · subst e
      rcases h with h | ⟨b', hb, hlt⟩
      · exact absurd ⟨hS, hd, hr⟩ h
      · have : b = b' := by omega
        subst this
        exact hlt
    · exact b5 i (by omega) hS hd hr hne
theorem BestOf.turn {q : Sh} {S dn : Nat → Bool} {H k : Nat} {x : Int} (a : BestOf q S dn H k x) (hS : S k = true) (hd : dn k = false) (hr : q.r k ≤ H) (h : x = -1 ∨ ∃ b : Nat, x = b ∧ q.lt k b) : BestOf q S dn H (k + 1) k := by
  refine .inr ⟨k, rfl, by omega, hS, hd, hr, fun i hi hSi hdi hri hne => ?_⟩
  rcases a with ⟨rfl, a⟩ | ⟨b, rfl, b1, b2, b3, b4, b5⟩
  · have := a i (by omega) hSi hdi; omega
  · rcases h with h | ⟨b', hb, hlt⟩
    · omega
    · have : b = b' := by omega
      subst this
      by_cases e : i = b
      · rw [e]; exact hlt
      · exact Sh.lt_trans hlt (b5 i (by omega) hSi hdi hri e)

def REarlyGot (l : List Ld) (K : Nat) (S : Nat → Bool) (w : World) (e : Ending) (w' : World) : Prop :=
  (∃ (c : Nat) (q : Option Addr) (t : Nat → Nat), e = .returned (.tuple #[.slice q l.length c, .bool true]) ∧ (shOf l K).Full S t ∧ w'.ownsRow w.heap.size 3 1 (.slice q l.length c) l.length ((outT S t l.length).map (Value.int .i64)) ∧ Adds w w') ∨
  (e = .returned (.tuple #[nilV, .bool false]) ∧ (shOf l K).Over S ∧ Adds w w')

set_option maxRecDepth 100000 in
set_option maxHeartbeats 4000000 in
theorem REarly_any (p ps : Option Addr) (cl cs K : Nat) (l : List Ld) (S : Nat → Bool) (w : World) (hL : LoadsAt w p l) (hS : BoolsAt w ps l.length S) (hl : l.length ≤ 256) (hok : ∀ x ∈ l, okB x = true) (hK : 1 ≤ K ∧ K ≤ 64) :
    Calls Try.prog 31 #[.slice p l.length cl, .int .i64 K, .slice ps l.length cs] w (REarlyGot l K S w) := by
  unfold REarlyGot
  obtain ⟨q, hq⟩ : ∃ q, q = shOf l K := ⟨_, rfl⟩
  have hqn : q.n = l.length := by rw [hq]; rfl
  have hqK : q.K = K := by rw [hq]; rfl
  have hlt : ∀ i, i < q.n → q.r i < q.d i := by rw [hq]; exact shOf_lt (fun x hx => okB_okN (hok x hx))
  have hcells : ∀ (W : World), Adds w W → ∀ i, i < l.length → ∃ g off, p = some ⟨g, off, none⟩ ∧ W.cell? ⟨g, off + i * 4, none⟩ = some (.int .i64 (q.r i : Int)) ∧ W.cell? ⟨g, off + i * 4 + 1, none⟩ = some (.int .i64 (q.d i : Int)) ∧ q.r i ≤ 1000000 ∧ q.d i ≤ 1000000 := fun W hW i hi => by
    obtain ⟨y, hy⟩ : ∃ y, l[i]? = some y := ⟨_, List.getElem?_eq_getElem hi⟩
    have hb := okB_iff.1 (hok y (List.mem_of_getElem? hy))
    have h1 := shOf_r (K := K) hy hb.1
    have h2 := shOf_d (K := K) hy (by omega)
    rw [← hq] at h1 h2
    obtain ⟨g, off, e, c0, c1, -, -⟩ := (hL.later hW) i y hy
    exact ⟨g, off, e, by rw [h1]; exact c0, by rw [h2]; exact c1, by omega, by omega⟩
  simp only [← hq]
  obtain ⟨N, hN⟩ : ∃ N, N = l.length := ⟨_, rfl⟩
  rw [← hN] at hl hqn hS ⊢
  simp only [← hN] at hcells
  have HCE := Lib.hid hcells
  have HQN := Lib.hid hqn
  have HQK := Lib.hid hqK
  have HLT := Lib.hid hlt
  have HS := Lib.hid hS
  obtain ⟨j0, hj, hj0, hj1, hj2⟩ := info_parts info3
  have HJ := Lib.hid hj
  have HJ0 := Lib.hid hj0
  have HJ1 := Lib.hid hj1
  have HJ2 := Lib.hid hj2
  obtain ⟨hK1, hK2⟩ := hK
  clear hcells hqn hqK hlt hN hq hok hL hS hj hj0 hj1 hj2
  go_enter Try.func31, Try.ntmps31
  go_upto_region 4 with (first
    | (refine wpList_make_full _ rfl _ _ 35 rfl w.heap.size 3 j0 (.int .i64 0) 1 Try.underlying35 HJ.out HJ0.out HJ1.out .i64 .i64 (N : Int) (N : Int) N rfl rfl rfl rfl (by rw [HJ2.out]; omega) (by unfold maxLen; omega) (Nat.le_refl _) ?_; intro W1 ho1 hg1; have HO1 := Lib.hid ho1; have HG1 := Lib.hid hg1; clear ho1 hg1)
    | go_in)
  obtain ⟨go, hgo⟩ : ∃ g, g = w.heap.size := ⟨_, rfl⟩
  rw [← hgo] at HO1 ⊢
  have hrow1 : RowI 3 .i64 W1 go N (List.replicate 0 (-1) ++ List.replicate (N - 0) 0) := by
    obtain ⟨_, hr⟩ := own_rowI (made_row HO1.out)
    rcases hr with ⟨hr, _⟩ | ⟨g1, c1, er, _, hrow⟩
    · cases hr
    · rw [List.length_replicate] at er
      simp only [Value.slice.injEq, Option.some.injEq, Addr.mk.injEq, and_true, true_and] at er
      obtain ⟨rfl, rfl⟩ := er
      simpa using hrow
  have HA1 : Hid (Adds w W1) := Lib.hid (Below.grown (Adds.refl _) HG1.out (Nat.le_refl _) (fun j hj => by cases hj))
  have HR1 := Lib.hid hrow1
  have hgw : w.heap.size ≤ go := by omega
  clear hrow1 hgo HO1 HG1
  go_loopw [9, 10] (fun v9 v10 wr => ∃ k : Nat, k ≤ N ∧ v10 = .int .i64 k ∧ v9 = .int .i64 (cntN k S) ∧ Hid (RowI 3 .i64 wr go N (List.replicate k (-1) ++ List.replicate (N - k) 0)) ∧ Hid (Adds w wr)) (fun _ v10 _ => N - (intOf v10).toNat)
  case atStart => exact ⟨0, by omega, rfl, rfl, HR1, HA1⟩
  case round => as_aux_lemma =>
    clear HR1 HA1
    obtain ⟨k, hk, rfl, rfl, HR, HAD⟩ := hrel
    have hcb := cntN_bd S k
    have HCS : Hid (cntN (k + 1) S = cntN k S + if S k = true then 1 else 0) := Lib.hid rfl
    obtain ⟨c, hc⟩ : ∃ c, c = cntN k S := ⟨_, rfl⟩
    rw [← hc] at hcb HCS ⊢
    have HC := Lib.hid hc
    clear hc
    by_cases hkn : k < N
    · have hkn2 : (k : Int) < (N : Int) := by omega
      have hk0 : (0 : Int) ≤ (k : Int) := by omega
      obtain ⟨gs, rfl, cs0⟩ := HS.out.later HAD.out k hkn
      obtain ⟨m, hm⟩ : ∃ m, N - k = m + 1 := ⟨N - k - 1, by omega⟩
      rw [hm] at HR
      have kh : wr.cell? ⟨go, k, none⟩ = some (.int .i64 0) := HR.out.cell (by rw [List.getElem?_append_right (by simp), List.length_replicate, Nat.sub_self, List.replicate_succ]; rfl)
      have kf : wr.frozen? ⟨go, k, none⟩ = false := HR.out.free k
      have hsg : gs ≠ go := fun e => by
        subst e
        obtain ⟨_, e2, c2⟩ := HS.out k hkn
        cases e2
        have := cell_lt c2
        omega
      have HMM := Lib.hid hm
      clear hm
      cases hSk : S k with
      | true =>
        rw [hSk] at cs0 HCS
        have HSK := Lib.hid hSk
        clear hSk
        go_wp2
        refine ⟨⟨k + 1, by omega, by go_num, by rw [HCS.out]; go_num, Lib.hid ?_, Lib.hid (HAD.out.set (p := ⟨go, k, none⟩) hgw _)⟩, by simp [intOf]; omega⟩
        have := HR.out.put k (-1)
        rw [mix_set] at this
        rw [show N - (k + 1) = m by have := HMM.out; omega]
        exact this
      | false =>
        rw [hSk] at cs0 HCS
        have HSK := Lib.hid hSk
        clear hSk
        go_wp2
        refine ⟨⟨k + 1, by omega, by go_num, by rw [HCS.out]; rfl, Lib.hid ?_, Lib.hid (HAD.out.set (p := ⟨go, k, none⟩) hgw _)⟩, by simp [intOf]; omega⟩
        have := HR.out.put k (-1)
        rw [mix_set] at this
        rw [show N - (k + 1) = m by have := HMM.out; omega]
        exact this
    · have hkk : k = N := by omega
      subst hkk
      have hkq : decide ((k : Int) < (k : Int)) = false := by simp
      have hR0 : RowI 3 .i64 wr go k (outT (fun _ => false) (fun _ => 0) k) := by
        rw [outT_none]
        have := HR.out
        rw [Nat.sub_self, List.replicate_zero, List.append_nil] at this
        exact this
      have hcl : c = leftN k S (fun _ => false) := by rw [HC.out]; exact cntN_congr (fun i _ => by simp)
      have HR0 := Lib.hid hR0
      have HCL := Lib.hid hcl
      have hc256 : c ≤ 256 := by omega
      clear hR0 hcl HR HCS HC hcb
      go_upto_region 10 with fail
      go_loopw [9, 11] (fun v9 v11 wr => ∃ (c h : Nat) (dn : Nat → Bool) (t : Nat → Nat), v9 = .int .i64 c ∧ v11 = .int .i64 h ∧ h ≤ 1000000 ∧ c ≤ 256 ∧ Hid (c = leftN k S dn) ∧ Hid (q.Part S h dn t) ∧ Hid (RowI 3 .i64 wr go k (outT dn t k)) ∧ Hid (Adds w wr)) (fun v9 _ _ => (intOf v9).toNat)
      case atStart => exact ⟨c, 0, fun _ => false, fun _ => 0, rfl, rfl, by omega, hc256, HCL, Lib.hid (Sh.Part.start q S _), HR0, HAD⟩
      case round => as_aux_lemma =>
        clear HCL HR0 HAD hc256
        obtain ⟨c, h, dn, t, rfl, rfl, hh, hc256, HCL, HPT, HR, HAD⟩ := hrel
        by_cases hc0 : 0 < c
        · have hcq : decide (0 < c) = true := decide_eq_true hc0
          have hcq2 : decide ((0 : Int) < (c : Int)) = true := decide_eq_true (by omega)
          go_upto_region 13 with fail
          go_loop [12, 13] (fun v12 v13 => ∃ j x : Nat, j ≤ k ∧ v13 = .int .i64 j ∧ v12 = .int .i64 x ∧ Hid (NextOf q S dn h j x)) (fun _ v13 => k - (intOf v13).toNat)
          case atStart => exact ⟨0, 1000000, by omega, rfl, rfl, Lib.hid ⟨fun i hi => by omega, .inl rfl, by omega⟩⟩
          case round => as_aux_lemma =>
            obtain ⟨j, x, hj, rfl, rfl, HNX⟩ := hrel
            by_cases hjk : j < k
            · have hjk2 : (j : Int) < (k : Int) := by omega
              have hj0 : (0 : Int) ≤ (j : Int) := by omega
              obtain ⟨gs, eps, cs0⟩ := HS.out.later HAD.out j hjk
              subst eps
              obtain ⟨g, off, ep, r0, d0, hrb, hdb⟩ := HCE.out wr HAD.out j hjk
              subst ep
              have ko := HR.out.cell (outT_get (dn := dn) (t := t) hjk)
              have hx6 : x ≤ 1000000 := HNX.out.2.2
              obtain ⟨rj, hrj⟩ : ∃ r, r = q.r j := ⟨_, rfl⟩
              rw [← hrj] at r0 hrb
              have HRJ := Lib.hid hrj
              clear hrj d0 hdb
              cases hSk : S j with
              | false =>
                rw [hSk] at cs0
                have HSK := Lib.hid hSk
                clear hSk
                go_wp2
                go_round
                case rel => exact ⟨j + 1, x, by omega, by go_num, rfl, Lib.hid (HNX.out.keep (fun e => by have := HSK.out; rw [e.1] at this; cases this))⟩
                case measure => simp [intOf]; omega
              | true =>
                rw [hSk] at cs0
                have HSK := Lib.hid hSk
                clear hSk
                cases hdk : dn j with
                | true =>
                  rw [hdk, if_pos rfl] at ko
                  have HDK := Lib.hid hdk
                  have htq : decide ((t j : Int) < 0) = false := decide_eq_false (by omega)
                  clear hdk
                  go_wp2
                  go_round
                  case rel => exact ⟨j + 1, x, by omega, by go_num, rfl, Lib.hid (HNX.out.keep (fun e => by have := HDK.out; rw [e.2] at this; cases this))⟩
                  case measure => simp [intOf]; omega
                | false =>
                  rw [hdk, if_neg (by simp)] at ko
                  have HDK := Lib.hid hdk
                  obtain ⟨u, hu⟩ : ∃ u : Nat, u = max h rj := ⟨_, rfl⟩
                  obtain ⟨y, hy⟩ : ∃ y : Nat, y = min x u := ⟨_, rfl⟩
                  have hu' : max (h : Int) (rj : Int) = (u : Int) := by omega
                  have hy' : min (x : Int) (u : Int) = (y : Int) := by omega
                  have HYY : Hid (y = min x (max h (q.r j))) := Lib.hid (by rw [hy, hu, HRJ.out])
                  clear hdk hu hy
                  go_wp2
                  go_round
                  case rel => exact ⟨j + 1, y, by omega, by go_num, rfl, Lib.hid (by rw [HYY.out]; exact HNX.out.turn HSK.out HDK.out)⟩
                  case measure => simp [intOf]; omega
            · have hjj : j = k := by omega
              subst hjj
              have hkq3 : decide ((j : Int) < (j : Int)) = false := by simp
              obtain ⟨n1, n2, n3⟩ := HNX.out
              obtain ⟨u0, u1, u2, u3⟩ := leftN_some (show 0 < leftN j S dn by rw [← HCL.out]; exact hc0)
              have hhx : h ≤ x := by
                rcases n2 with e | ⟨i, _, _, _, e⟩
                · omega
                · omega
              have hex : ∃ i, i < j ∧ S i = true ∧ dn i = false ∧ q.r i ≤ x := by
                rcases n2 with e | ⟨i, i1, i2, i3, e⟩
                · obtain ⟨_, _, _, _, _, hrb, _⟩ := HCE.out wr HAD.out u0 u1
                  exact ⟨u0, u1, u2, u3, by omega⟩
                · exact ⟨i, i1, i2, i3, by omega⟩
              have HPT2 := Lib.hid (HPT.out.skip2 hhx (fun i hi hSi hdi => n1 i (by rw [← HQN.out]; exact hi) hSi hdi))
              have HEX := Lib.hid hex
              clear n1 n2 u1 u2 u3 u0 hhx hex HNX HPT
              go_upto_region 19 with fail
              have HPK := Lib.hid (HPT2.out.pick)
              clear HPT2
              go_loopw [9, 14] (fun v9 v14 wr => ∃ (i c2 : Nat) (dn : Nat → Bool) (t : Nat → Nat), i ≤ K ∧ v14 = .int .i64 i ∧ v9 = .int .i64 c2 ∧ c2 + i = c ∧ Hid (c2 = leftN j S dn) ∧ Hid (q.Pick S x dn t i) ∧ Hid (i = 0 → ∃ a, a < j ∧ S a = true ∧ dn a = false ∧ q.r a ≤ x) ∧ (0 < i → x < 1000000) ∧ Hid (RowI 3 .i64 wr go j (outT dn t j)) ∧ Hid (Adds w wr)) (fun _ v14 _ => K - (intOf v14).toNat)
              case atStart => exact ⟨0, c, dn, t, by omega, rfl, rfl, by omega, HCL, HPK, Lib.hid (fun _ => HEX.out), by omega, HR, HAD⟩
              case round => as_aux_lemma =>
                clear HPK HCL HEX HR HAD hkq3 hcq hcq2
                obtain ⟨i, c2, dn, t, hi, rfl, rfl, hcc, HCL, HPK, HEX, hx1, HR, HAD⟩ := hrel
                have HEND : Hid (0 < i → (i = K ∨ ∀ a, a < q.n → S a = true → dn a = false → x < q.r a) → q.Part S (x + 1) dn t) := Lib.hid (fun _ he => HPK.out.part (by rw [HQK.out]; exact hi) (by rw [HQK.out]; exact he))
                by_cases hiK : i < K
                · have hiK2 : (i : Int) < (K : Int) := by omega
                  go_upto_region 23 with fail
                  go_loopw [15, 16] (fun v15 v16 wr => ∃ (a : Nat) (b : Int), a ≤ j ∧ v16 = .int .i64 a ∧ v15 = .int .i64 b ∧ -1 ≤ b ∧ b < (j : Int) ∧ Hid (BestOf q S dn x a b) ∧ Hid (RowI 3 .i64 wr go j (outT dn t j)) ∧ Hid (Adds w wr)) (fun _ v16 _ => j - (intOf v16).toNat)
                  case atStart => exact ⟨0, -1, by omega, rfl, rfl, by omega, by omega, Lib.hid (.inl ⟨rfl, fun a ha => by omega⟩), HR, HAD⟩
                  case round => as_aux_lemma =>
                    clear HR HAD
                    obtain ⟨a, b, ha, rfl, rfl, hb1, hb2, HBS, HR, HAD⟩ := hrel
                    by_cases haj : a < j
                    · have haj2 : (a : Int) < (j : Int) := by omega
                      have ha0 : (0 : Int) ≤ (a : Int) := by omega
                      obtain ⟨gs, eps, cs0⟩ := HS.out.later HAD.out a haj
                      subst eps
                      obtain ⟨g, off, ep, r0, d0, hrb, hdb⟩ := HCE.out wr HAD.out a haj
                      subst ep
                      have ko := HR.out.cell (outT_get (dn := dn) (t := t) haj)
                      obtain ⟨ra, hra⟩ : ∃ r, r = q.r a := ⟨_, rfl⟩
                      obtain ⟨da, hda⟩ : ∃ r, r = q.d a := ⟨_, rfl⟩
                      rw [← hra] at r0 hrb
                      rw [← hda] at d0 hdb
                      have HRA := Lib.hid hra
                      have HDA := Lib.hid hda
                      clear hra hda
                      cases hSk : S a with
                      | false =>
                        rw [hSk] at cs0
                        have HSK := Lib.hid hSk
                        clear hSk
                        go_upto_region 25 with fail
                        go_quiet (fail)
                        go_wp2
                        exact ⟨⟨a + 1, b, by omega, by go_num, rfl, hb1, hb2, Lib.hid (HBS.out.keep (.inl (fun e => by have := HSK.out; rw [e.1] at this; cases this))), Lib.hid (HR.out.later ((Adds.refl _).drewN _)), Lib.hid (HAD.out.drewN _)⟩, by simp [intOf]; omega⟩
                      | true =>
                        rw [hSk] at cs0
                        have HSK := Lib.hid hSk
                        clear hSk
                        cases hdk : dn a with
                        | true =>
                          rw [hdk, if_pos rfl] at ko
                          have HDK := Lib.hid hdk
                          have htq : decide ((t a : Int) < 0) = false := decide_eq_false (by omega)
                          clear hdk
                          go_upto_region 25 with fail
                          go_quiet (fail)
                          go_wp2
                          exact ⟨⟨a + 1, b, by omega, by go_num, rfl, hb1, hb2, Lib.hid (HBS.out.keep (.inl (fun e => by have := HDK.out; rw [e.2.1] at this; cases this))), Lib.hid (HR.out.later ((Adds.refl _).drewN _)), Lib.hid (HAD.out.drewN _)⟩, by simp [intOf]; omega⟩
                        | false =>
                          rw [hdk, if_neg (by simp)] at ko
                          have HDK := Lib.hid hdk
                          clear hdk
                          by_cases hrx : ra ≤ x
                          · have hrq : decide (ra ≤ x) = true := decide_eq_true hrx
                            have hrq2 : decide ((ra : Int) ≤ (x : Int)) = true := decide_eq_true (by omega)
                            by_cases hb0 : b < 0
                            · have hbq : decide (b < 0) = true := decide_eq_true hb0
                              have hbm : b = -1 := by omega
                              have HBM := Lib.hid hbm
                              clear hbm
                              go_upto_region 25 with fail
                              go_quiet (fail)
                              go_wp2
                              exact ⟨⟨a + 1, (a : Int), by omega, by go_num, rfl, by omega, by omega, Lib.hid (HBS.out.turn HSK.out HDK.out (by rw [← HRA.out]; exact hrx) (.inl HBM.out)), Lib.hid (HR.out.later ((Adds.refl _).drewN _)), Lib.hid (HAD.out.drewN _)⟩, by simp [intOf]; omega⟩
                            · have hbq : decide (b < 0) = false := decide_eq_false hb0
                              obtain ⟨bb, rfl⟩ : ∃ bb : Nat, b = (bb : Int) := ⟨b.toNat, by omega⟩
                              have hbbj : bb < j := by omega
                              have hbb0 : (0 : Int) ≤ (bb : Int) := by omega
                              have hba : bb < a := by
                                rcases HBS.out with ⟨e, _⟩ | ⟨b2, e, h2, _⟩
                                · omega
                                · omega
                              obtain ⟨g2, off2, ep2, _, d02, _, hdb2⟩ := HCE.out wr HAD.out bb hbbj
                              simp only [Option.some.injEq, Addr.mk.injEq, and_true] at ep2
                              obtain ⟨rfl, rfl⟩ := ep2
                              obtain ⟨db, hdbq⟩ : ∃ r, r = q.d bb := ⟨_, rfl⟩
                              rw [← hdbq] at d02 hdb2
                              have HDB := Lib.hid hdbq
                              clear hdbq
                              by_cases hdd : da < db
                              · have hdq : decide (da < db) = true := decide_eq_true hdd
                                have hdq2 : decide ((da : Int) < (db : Int)) = true := decide_eq_true (by omega)
                                go_upto_region 25 with fail
                                go_quiet (fail)
                                go_wp2
                                exact ⟨⟨a + 1, (a : Int), by omega, by go_num, rfl, by omega, by omega, Lib.hid (HBS.out.turn HSK.out HDK.out (by rw [← HRA.out]; exact hrx) (.inr ⟨bb, rfl, .inl (by rw [← HDA.out, ← HDB.out]; exact hdd)⟩)), Lib.hid (HR.out.later ((Adds.refl _).drewN _)), Lib.hid (HAD.out.drewN _)⟩, by simp [intOf]; omega⟩
                              · have hdq : decide (da < db) = false := decide_eq_false hdd
                                have hdq2 : decide ((da : Int) < (db : Int)) = false := decide_eq_false (by omega)
                                go_upto_region 25 with fail
                                go_quiet (fail)
                                go_wp2
                                exact ⟨⟨a + 1, (bb : Int), by omega, by go_num, rfl, hb1, hb2, Lib.hid (HBS.out.keep (.inr ⟨bb, rfl, by unfold Sh.lt; rw [← HDA.out, ← HDB.out]; omega⟩)), Lib.hid (HR.out.later ((Adds.refl _).drewN _)), Lib.hid (HAD.out.drewN _)⟩, by simp [intOf]; omega⟩
                          · have hrq : decide (ra ≤ x) = false := decide_eq_false hrx
                            have hrq2 : decide ((ra : Int) ≤ (x : Int)) = false := decide_eq_false (by omega)
                            go_upto_region 25 with fail
                            go_quiet (fail)
                            go_wp2
                            exact ⟨⟨a + 1, b, by omega, by go_num, rfl, hb1, hb2, Lib.hid (HBS.out.keep (.inl (fun e => hrx (by rw [HRA.out]; exact e.2.2)))), Lib.hid (HR.out.later ((Adds.refl _).drewN _)), Lib.hid (HAD.out.drewN _)⟩, by simp [intOf]; omega⟩
                    · have hjj : a = j := by omega
                      subst hjj
                      have hkq5 : decide ((a : Int) < (a : Int)) = false := by simp
                      by_cases hb0 : b < 0
                      · have hbq : decide (b < 0) = true := decide_eq_true hb0
                        have hno : ∀ i, i < a → S i = true → dn i = false → x < q.r i := by
                          rcases HBS.out with ⟨_, h⟩ | ⟨b2, e, _⟩
                          · exact h
                          · omega
                        have hi0 : 0 < i := by
                          rcases Nat.eq_zero_or_pos i with e | e
                          · obtain ⟨a2, h1, h2, h3, h4⟩ := HEX.out e
                            have := hno a2 h1 h2 h3
                            omega
                          · exact e
                        have HP2 := Lib.hid (HEND.out hi0 (.inr (fun b hb => hno b (by rw [← HQN.out]; exact hb))))
                        have hx2 := hx1 hi0
                        clear hno HEND HPK HEX HBS hx1
                        go_wp2
                        exact ⟨⟨c2, x + 1, dn, t, rfl, by go_num, by omega, by omega, HCL, HP2, HR, HAD⟩, by simp [intOf]; omega⟩
                      · have hbq : decide (b < 0) = false := decide_eq_false hb0
                        obtain ⟨bb, rfl⟩ : ∃ bb : Nat, b = (bb : Int) := ⟨b.toNat, by omega⟩
                        have hbbj : bb < a := by omega
                        have hbb0 : (0 : Int) ≤ (bb : Int) := by omega
                        have hbest : S bb = true ∧ dn bb = false ∧ q.r bb ≤ x ∧ ∀ i, i < a → S i = true → dn i = false → q.r i ≤ x → i ≠ bb → q.lt bb i := by
                          rcases HBS.out with ⟨e, _⟩ | ⟨b2, e, h1, h2, h3, h4, h5⟩
                          · omega
                          · have : bb = b2 := by omega
                            subst this
                            exact ⟨h2, h3, h4, h5⟩
                        obtain ⟨g, off, ep, r0, d0, hrb, hdb⟩ := HCE.out wr HAD.out bb hbbj
                        subst ep
                        obtain ⟨db, hdbq⟩ : ∃ r, r = q.d bb := ⟨_, rfl⟩
                        rw [← hdbq] at d0 hdb
                        have HDB := Lib.hid hdbq
                        have HBE := Lib.hid hbest
                        clear hdbq hbest r0 hrb HBS HEND HEX
                        have hbn : bb < q.n := by rw [HQN.out]; exact hbbj
                        by_cases hdx : db ≤ x
                        · have hdq : decide (db ≤ x) = true := decide_eq_true hdx
                          have hdq2 : decide ((db : Int) ≤ (x : Int)) = true := decide_eq_true (by omega)
                          have HOV := Lib.hid (HPK.out.over hbn HBE.out.1 HBE.out.2.1 (HLT.out bb hbn) (by rw [← HDB.out]; exact hdx))
                          clear HPK
                          go_wp2
                          go_ret2
                          exact Or.inr ⟨rfl, HOV.out, HAD.out⟩
                        · have hdq : decide (db ≤ x) = false := decide_eq_false hdx
                          have hdq2 : decide ((db : Int) ≤ (x : Int)) = false := decide_eq_false (by omega)
                          have hxx : x < 1000000 := by omega
                          have HP2 := Lib.hid (HPK.out.next hbn HBE.out.1 HBE.out.2.1 HBE.out.2.2.1 (by rw [← HDB.out]; omega) (fun i hi => HBE.out.2.2.2 i (by rw [← HQN.out]; exact hi)))
                          have hl2 := leftN_put hbbj HBE.out.1 HBE.out.2.1
                          rw [← HCL.out] at hl2
                          obtain ⟨c3, hc3⟩ : ∃ c3, c3 = leftN a S (putS dn bb) := ⟨_, rfl⟩
                          rw [← hc3] at hl2
                          have HC3 := Lib.hid hc3
                          clear hc3 HPK HCL
                          subst hl2
                          have kf : wr.frozen? ⟨go, bb, none⟩ = false := HR.out.free bb
                          have kh := HR.out.cell (outT_get (dn := dn) (t := t) hbbj)
                          go_wp2
                          refine ⟨⟨i + 1, c3, putS dn bb, setT t bb x, by omega, by go_num, by go_num, by omega, HC3, HP2, Lib.hid (fun e => by omega), fun _ => hxx, Lib.hid ?_, Lib.hid (HAD.out.set (p := ⟨go, bb, none⟩) hgw _)⟩, by simp [intOf]; omega⟩
                          have := HR.out.put bb (x : Int)
                          rw [outT_put dn t x hbbj] at this
                          exact this
                · have hiq : decide ((i : Int) < (K : Int)) = false := decide_eq_false (by omega)
                  have hi0 : 0 < i := by omega
                  have HP2 := Lib.hid (HEND.out hi0 (.inl (by omega)))
                  have hx2 := hx1 hi0
                  clear HEND HPK HEX hx1
                  go_wp2
                  exact ⟨⟨c2, x + 1, dn, t, rfl, by go_num, by omega, by omega, HCL, HP2, HR, HAD⟩, by simp [intOf]; omega⟩
        · have hc00 : c = 0 := by omega
          subst hc00
          have hall := leftN_zero HCL.out.symm
          have hfull := HPT.out.full (fun i hi hSi => hall i (by rw [← HQN.out]; exact hi) hSi)
          have hrow := HR.out.own (base := w.heap.size) hgw
          rw [outT_len, outT_congr t (S := S) (fun i hi => by
            cases hd : dn i with
            | true => exact (HPT.out.sub i hd).symm
            | false =>
              cases hSi : S i with
              | false => rfl
              | true => have := hall i hi hSi; rw [hd] at this; cases this)] at hrow
          have HFU := Lib.hid hfull
          have HROW := Lib.hid hrow
          clear hall hfull hrow
          go_wp2
          go_ret2
          exact Or.inl ⟨_, _, t, rfl, HFU.out, HROW.out, HAD.out⟩
end Go.Proofs.Ytkofnhimgegcnaa

namespace Go.Proofs.Ytkofnhimgegcnaa
open Go Go.RowKit Go.Sort

theorem tame_short (p : Option Addr) (cl most : Nat) (l : List Ld) (w : World) (hL : LoadsAt w p l) (hm : most ≤ 256) (hcl : l.length ≤ cl) (hmx : cl ≤ maxLen) :
    Calls Try.prog 13 #[.slice p l.length cl, .int .i64 most, .bool true] w fun e w' => ∃ c q l', e = .returned (.slice q (List.length l') c) ∧ LoadsAt w' q l' ∧ l'.length ≤ most ∧ (∀ x ∈ l', okB x = true) ∧ (∀ x ∈ l', x.2.2.1 = 1) ∧ Adds w w' :=
  (tame_any p cl most true l w hL (by omega) hcl hmx).mono (by
    rintro e w' ⟨c, q, l', h1, h2, rfl, h3, h4⟩
    exact ⟨c, q, l', rfl, h3.at, by omega, fun x hx => (h2 x hx).1, fun x hx => (h2 x hx).2 rfl, h4⟩)
theorem short_any {l : List Ld} (h : ∀ x ∈ l, x.2.2.1 = 1) : l.any longB = false := by
  cases e : l.any longB with
  | false => rfl
  | true =>
    obtain ⟨x, hx, hb⟩ := List.any_eq_true.1 e
    unfold longB at hb
    rw [h x hx] at hb
    cases hb

set_option maxRecDepth 100000 in
set_option maxHeartbeats 2000000 in
theorem RShort_any (p : Option Addr) (cl : Nat) (l : List Ld) (w : World) (hL : LoadsAt w p l) (hl : l.length ≤ 256) :
    Calls Try.prog 28 #[.slice p l.length cl] w fun e w' => e = .returned (.bool (!l.any longB)) ∧ Adds w w' := by
  obtain ⟨N, hN⟩ : ∃ n, n = l.length := ⟨_, rfl⟩
  rw [← hN] at hl ⊢
  have HL := Lib.hid hL
  have HN := Lib.hid hN
  clear hL hN
  go_enter Try.func28, Try.ntmps28
  go_upto_region 2 with fail
  go_loopw [3] (fun i wr => ∃ k : Nat, k ≤ N ∧ i = .int .i64 k ∧ Hid ((l.take k).any longB = false) ∧ Hid (Adds w wr)) (fun i _ => N - (intOf i).toNat)
  case atStart => exact ⟨0, by omega, rfl, Lib.hid (by simp), Lib.hid (Adds.refl _)⟩
  case round =>
    obtain ⟨k, hk, rfl, HT, HAD⟩ := hrel
    by_cases hkn : k < N
    · have hkn2 : (k : Int) < (N : Int) := by omega
      obtain ⟨⟨x0, x1, x2, x3⟩, hx⟩ : ∃ x, l[k]? = some x := ⟨_, List.getElem?_eq_getElem (by have := HN.out; omega)⟩
      obtain ⟨g, off, rfl, c0, c1, c2, c3⟩ := HL.out.later HAD.out k _ hx
      dsimp only at c0 c1 c2 c3
      have htk : (l.take (k + 1)).any longB = ((l.take k).any longB || (x2 != 1)) := by
        rw [List.take_add_one, hx]
        simp [longB]
      have hmem : (x2 != 1) = true → l.any longB = true := fun h => List.any_eq_true.2 ⟨_, List.mem_of_getElem? hx, h⟩
      rw [HT.out, Bool.false_or] at htk
      by_cases h1 : x2 = 1
      · have hq : (x2 != 1) = false := by simp [h1]
        rw [hq] at htk
        have HTK := Lib.hid htk
        subst h1
        clear htk hmem hx
        go_wp2
        exact ⟨⟨k + 1, by omega, by go_num, HTK, HAD⟩, by simp [intOf]; omega⟩
      · have hq : (x2 != 1) = true := by simp [h1]
        have HM := Lib.hid (hmem hq)
        clear htk hmem hx
        go_wp2
        go_ret
        exact ⟨by rw [HM.out]; rfl, HAD.out⟩
    · have hd : decide ((k : Int) < (N : Int)) = false := decide_eq_false (by omega)
      have he : l.any longB = false := by
        have := HT.out
        rwa [List.take_of_length_le (by have := HN.out; omega)] at this
      have HE := Lib.hid he
      clear he
      go_wp2
      go_ret
      exact ⟨by rw [HE.out]; rfl, HAD.out⟩

/-- Numbers as a slice of the call's own. -/
def NumsAt (w : World) (p : Option Addr) (n : Nat) (f : Nat → Int) : Prop := ∀ i, i < n → ∃ g, p = some ⟨g, 0, none⟩ ∧ w.cell? ⟨g, i, none⟩ = some (.int .i64 (f i))
theorem NumsAt.later {w w' : World} {p : Option Addr} {n : Nat} {f : Nat → Int} (h : NumsAt w p n f) (ha : Adds w w') : NumsAt w' p n f := fun i hi => by
  obtain ⟨g, e, c⟩ := h i hi
  exact ⟨g, e, keep_cell ha c⟩
theorem NumsAt.congr {w : World} {p : Option Addr} {n : Nat} {f g : Nat → Int} (h : NumsAt w p n f) (e : ∀ i, i < n → f i = g i) : NumsAt w p n g := fun i hi => by
  obtain ⟨a, ea, c⟩ := h i hi
  exact ⟨a, ea, by rw [← e i hi]; exact c⟩
theorem nums_own {w : World} {base cap n : Nat} {p : Option Addr} {L : List Int} {f : Nat → Int} (ho : w.ownsRow base 3 1 (.slice p n cap) n (L.map (Value.int .i64))) (h : ∀ i, i < n → L[i]? = some (f i)) : NumsAt w p n f := fun i hi => by
  obtain ⟨g, c', eg, _⟩ := own_some ho (by omega)
  injection eg with eg1 eg2 eg3
  subst eg1
  refine ⟨g, rfl, ?_⟩
  have := (own_cell ho (j := i) (u := .int .i64 (f i)) (by rw [List.getElem?_map, h i hi]; rfl)).1
  exact this

set_option maxRecDepth 100000 in
set_option maxHeartbeats 2000000 in
theorem ints_same (p1 p2 : Option Addr) (c1 c2 n : Nat) (f : Nat → Int) (w : World) (h1 : NumsAt w p1 n f) (h2 : NumsAt w p2 n f) (hn : n ≤ 256) :
    Calls Try.prog 33 #[.slice p1 n c1, .slice p2 n c2] w fun e w' => e = .returned (.bool true) ∧ Adds w w' := by
  have H1 := Lib.hid h1
  have H2 := Lib.hid h2
  clear h1 h2
  go_enter Try.func33, Try.ntmps33
  go_upto_region 4 with fail
  go_loopw [5] (fun i wr => ∃ k : Nat, k ≤ n ∧ i = .int .i64 k ∧ Hid (Adds w wr)) (fun i _ => n - (intOf i).toNat)
  case atStart => exact ⟨0, by omega, rfl, Lib.hid (Adds.refl _)⟩
  case round =>
    obtain ⟨k, hk, rfl, HAD⟩ := hrel
    by_cases hkn : k < n
    · have hkn2 : (k : Int) < (n : Int) := by omega
      have hk0 : (0 : Int) ≤ (k : Int) := by omega
      obtain ⟨g1, rfl, d1⟩ := H1.out.later HAD.out k hkn
      obtain ⟨g2, rfl, d2⟩ := H2.out.later HAD.out k hkn
      go_upto_region 6 with fail
      go_quiet (fail)
      go_wp2
      exact ⟨⟨k + 1, by omega, by go_num, Lib.hid (HAD.out.drewN _)⟩, by simp [intOf]; omega⟩
    · have hd : decide ((k : Int) < (n : Int)) = false := decide_eq_false (by omega)
      go_wp2
      go_ret
      exact ⟨rfl, HAD.out⟩

/-- A set in a block that may be written. -/
def SetI (w : World) (g N : Nat) (S : Nat → Bool) : Prop := ∃ cur : Array Value, w.heap[g]? = some (.cells cur 4 (0, 0)) ∧ ∀ v, v < N → cur[v]? = some (.bool (S v))
section
variable {w w' : World} {g N : Nat} {S : Nat → Bool}
theorem SetI.lt (h : SetI w g N S) : g < w.heap.size := by
  obtain ⟨cur, hg, _⟩ := h
  exact (Array.getElem?_eq_some_iff.1 hg).1
theorem SetI.cell (h : SetI w g N S) {v : Nat} (hv : v < N) : w.cell? ⟨g, v, none⟩ = some (.bool (S v)) := by
  obtain ⟨cur, hg, hc⟩ := h
  simp [World.cell?, hg, hc v hv]
theorem SetI.free (h : SetI w g N S) (o : Nat) : w.frozen? ⟨g, o, none⟩ = false := by
  obtain ⟨cur, hg, _⟩ := h
  simp [World.frozen?, hg]
theorem SetI.later (h : SetI w g N S) (hb : Adds w w') : SetI w' g N S := by
  have hlt := h.lt
  obtain ⟨cur, hg, r⟩ := h
  exact ⟨cur, (hb.block g hlt).trans hg, r⟩
theorem SetI.far (h : SetI w g N S) {p : Addr} (hp : g ≠ p.block) (u : Value) : SetI (w.setCell p u) g N S := by
  obtain ⟨cur, hg, r⟩ := h
  exact ⟨cur, (Below.heap_setCell w p u g hp).trans hg, r⟩
theorem SetI.put (h : SetI w g N S) (v : Nat) (x : Bool) : SetI (w.setCell ⟨g, v, none⟩ (.bool x)) g N (fun u => if u = v then x else S u) := by
  obtain ⟨cur, hg, hc⟩ := h
  refine ⟨_, Box.set (t := 4) hg v (.bool x), fun u hu => ?_⟩
  have := hc u hu
  have hlt := (Array.getElem?_eq_some_iff.1 this).1
  rw [Array.getElem?_setIfInBounds]
  split
  · next e => subst e; simp [hlt]
  · next e => have e' : u ≠ v := fun x => e x.symm
              simp only [if_neg e']; exact this
theorem SetI.congr (h : SetI w g N S) {T : Nat → Bool} (e : ∀ v, v < N → S v = T v) : SetI w g N T := by
  obtain ⟨cur, hg, hc⟩ := h
  exact ⟨cur, hg, fun v hv => by rw [← e v hv]; exact hc v hv⟩
theorem SetI.bools (h : SetI w g N S) : BoolsAt w (some ⟨g, 0, none⟩) N S := fun _ hi => ⟨g, rfl, h.cell hi⟩
end
theorem made_set {w : World} {g n : Nat} (h : w.ownsRow g 4 1 (.slice (some ⟨g, 0, none⟩) n n) n (madeCells (Value.bool false).cells (n * 1)).toList) (_hz : 0 < n) : SetI w g n (fun _ => false) := by
  have h := made_bools h
  obtain ⟨h1, h2⟩ := h
  rcases h2 with ⟨e, _⟩ | ⟨g', cap, cur, hv, hb, hg, hl, hm, hs, ht⟩
  · cases e
  · simp only [Value.slice.injEq, Option.some.injEq, Addr.mk.injEq, and_true, true_and] at hv
    obtain ⟨rfl, rfl⟩ := hv
    refine ⟨cur, hg, fun v hv => ?_⟩
    have : (cur.toList.take (n * 1))[v]? = some (.bool false) := by rw [ht, seenL_get _ hv]; simp
    rw [List.getElem?_take, if_pos (by omega)] at this
    simpa using this
theorem made_set0 {w : World} {g : Nat} (S : Nat → Bool) (hg : ∃ cur, w.heap[g]? = some (.cells cur 4 (0, 0))) : SetI w g 0 S := by
  obtain ⟨cur, h⟩ := hg
  exact ⟨cur, h, fun v hv => by omega⟩
theorem own_blk {w : World} {g t n c : Nat} {xs : List Value} (h : w.ownsRow g t 1 (.slice (some ⟨g, 0, none⟩) n c) n xs) : ∃ cur, w.heap[g]? = some (.cells cur t (0, 0)) := by
  obtain ⟨h1, h2⟩ := h
  rcases h2 with ⟨e, _⟩ | ⟨g', cap, cur, hv, hb, hg, hl, hm, hs, ht⟩
  · cases e
  · simp only [Value.slice.injEq, Option.some.injEq, Addr.mk.injEq, and_true, true_and] at hv
    obtain ⟨rfl, rfl⟩ := hv
    exact ⟨cur, hg⟩
theorem made_sets {w : World} {g n : Nat} (h : w.ownsRow g 4 1 (.slice (some ⟨g, 0, none⟩) n n) n (madeCells (Value.bool false).cells (n * 1)).toList) : SetI w g n (fun _ => false) := by
  rcases Nat.eq_zero_or_pos n with e | e
  · subst e
    exact made_set0 _ (own_blk h)
  · exact made_set h e
theorem info4 : (Try.prog.info? 4).map (fun i => (i.zero, i.size, i.bytes)) = some (some (.bool false), 1, 1) := by kernel_rfl

set_option maxRecDepth 100000 in
set_option maxHeartbeats 2000000 in
theorem All_any (n : Nat) (w : World) (hn : n ≤ 256) :
    Calls Try.prog 32 #[.int .i64 n] w fun e w' => ∃ q c, e = .returned (.slice q n c) ∧ BoolsAt w' q n (fun _ => true) ∧ Adds w w' := by
  obtain ⟨j0, hj, hj0, hj1, hj2⟩ := info_parts info4
  have HJ := Lib.hid hj
  have HJ0 := Lib.hid hj0
  have HJ1 := Lib.hid hj1
  have HJ2 := Lib.hid hj2
  clear hj hj0 hj1 hj2
  go_enter Try.func32, Try.ntmps32
  go_upto_region 3 with (first
    | (refine wpList_make_full _ rfl _ _ 65 rfl w.heap.size 4 j0 (.bool false) 1 Try.underlying65 HJ.out HJ0.out HJ1.out .i64 .i64 (n : Int) (n : Int) n rfl rfl rfl rfl (by rw [HJ2.out]; omega) (by unfold maxLen; omega) (Nat.le_refl _) ?_; intro W1 ho1 hg1; have HO1 := Lib.hid (made_sets ho1); have HG1 := Lib.hid hg1; clear ho1 hg1)
    | go_in)
  obtain ⟨go, hgo⟩ : ∃ g, g = w.heap.size := ⟨_, rfl⟩
  rw [← hgo] at HO1 ⊢
  have HA1 : Hid (Adds w W1) := Lib.hid (Below.grown (Adds.refl _) HG1.out (Nat.le_refl _) (fun j hj => by cases hj))
  have HR1 : Hid (SetI W1 go n (fun i => decide (i < 0))) := Lib.hid (HO1.out.congr (fun v _ => by simp))
  have hgw : w.heap.size ≤ go := by omega
  clear hgo HO1 HG1
  go_loopw [4] (fun v4 wr => ∃ k : Nat, k ≤ n ∧ v4 = .int .i64 k ∧ Hid (SetI wr go n (fun i => decide (i < k))) ∧ Hid (Adds w wr)) (fun v4 _ => n - (intOf v4).toNat)
  case atStart => exact ⟨0, by omega, rfl, HR1, HA1⟩
  case round =>
    clear HR1 HA1
    obtain ⟨k, hk, rfl, HR, HAD⟩ := hrel
    by_cases hkn : k < n
    · have hkn2 : (k : Int) < (n : Int) := by omega
      have hk0 : (0 : Int) ≤ (k : Int) := by omega
      have kh := HR.out.cell hkn
      have kf : wr.frozen? ⟨go, k, none⟩ = false := HR.out.free k
      go_wp2
      refine ⟨⟨k + 1, by omega, by go_num, Lib.hid ((HR.out.put k true).congr (fun v _ => ?_)), Lib.hid (HAD.out.set (p := ⟨go, k, none⟩) hgw _)⟩, by simp [intOf]; omega⟩
      by_cases e : v = k
      · subst e; simp
      · simp only [if_neg e, decide_eq_decide]
        omega
    · have hkk : k = n := by omega
      have hd : decide ((k : Int) < (n : Int)) = false := decide_eq_false (by omega)
      have HB := Lib.hid (HR.out.congr (T := fun _ => true) (fun v hv => by simp; omega)).bools
      go_wp2
      go_ret
      exact ⟨_, _, rfl, HB.out, HAD.out⟩

set_option maxRecDepth 100000 in
set_option maxHeartbeats 2000000 in
theorem Early_long (p : Option Addr) (cl K : Nat) (l : List Ld) (w : World) (hL : LoadsAt w p l) (hl : l.length ≤ 256) (hok : ∀ x ∈ l, okB x = true) (hsh : l.any longB = true) (hK : 1 ≤ K ∧ K ≤ 64) :
    Calls Try.prog 29 #[.slice p l.length cl, .int .i64 K] w fun e w' => e = .returned (.tuple #[nilV, .int .i64 7]) ∧ Adds w w' := by
  have hck := checkShort_any p cl l K w hl hL hok (by omega) true hsh
  generalize l.length = N at *
  have HCK := Lib.hid hck
  clear hck hL hok hsh
  go_enter Try.func29, Try.ntmps29
  go_wp2_with (go_at_call 65; refine HCK.out.mono ?_; rintro e w1 ⟨rfl, hb1⟩; have HB1 := Lib.hid hb1; clear hb1)
  go_ret2
  exact ⟨rfl, HB1.out⟩

set_option maxRecDepth 100000 in
set_option maxHeartbeats 2000000 in
theorem Best_long (p : Option Addr) (cl K : Nat) (l : List Ld) (w : World) (hL : LoadsAt w p l) (hl : l.length ≤ 256) (hok : ∀ x ∈ l, okB x = true) (hsh : l.any longB = true) (hK : 1 ≤ K ∧ K ≤ 64) :
    Calls Try.prog 30 #[.slice p l.length cl, .int .i64 K] w fun e w' => e = .returned (.tuple #[nilV, .int .i64 0, .int .i64 7]) ∧ Adds w w' := by
  have hck := fun W (hW : Adds w W) => checkShort_any p cl l K W hl (hL.later hW) hok (by omega) true hsh
  generalize l.length = N at *
  have HCK := Lib.hid hck
  clear hck hL hok hsh
  go_enter Try.func30, Try.ntmps30
  go_upto_region 1 with fail
  obtain ⟨cb, hcb⟩ : ∃ b, b = w.heap.size := ⟨_, rfl⟩
  obtain ⟨W1, hW1⟩ : ∃ V, V = w.alloc (.cells #[.slice p N cl] 30) := ⟨_, rfl⟩
  try rw [← hW1, ← hcb]
  have HC1 : Hid (Box W1 cb #[.slice p N cl] 30) := Lib.hid (by rw [hW1, hcb]; exact Box.new _ _ _)
  have HA1 : Hid (Adds w W1) := Lib.hid (by rw [hW1]; exact (Adds.refl _).alloc _)
  have k0 : W1.cell? ⟨cb, 0, none⟩ = some (.slice p N cl) := HC1.out.cell 0
  clear hW1 hcb
  go_wp2_with (go_at_call 65; refine (HCK.out _ HA1.out).mono ?_; rintro e w1 ⟨rfl, hb1⟩; have HB1 := Lib.hid hb1; clear hb1)
  go_ret3
  exact ⟨rfl, HA1.out.trans HB1.out⟩
end Go.Proofs.Ytkofnhimgegcnaa

namespace Go.Proofs.Ytkofnhimgegcnaa
open Go Go.RowKit Go.Sort

theorem Early_yes (p : Option Addr) (cl K : Nat) (l : List Ld) (w : World) (t : Nat → Nat) (hL : LoadsAt w p l) (hl : l.length ≤ 256) (hok : ∀ x ∈ l, okB x = true) (hsh : l.any longB = false) (hK : 1 ≤ K ∧ K ≤ 64) (hF : (shOf l K).Full (fun _ => true) t) :
    Calls Try.prog 29 #[.slice p l.length cl, .int .i64 K] w fun e w' => ∃ c q, e = .returned (.tuple #[.slice q l.length c, .int .i64 0]) ∧ NumsAt w' q l.length (fun i => (t i : Int)) ∧ Adds w w' :=
  (Early_any p cl K l w hL hl hok hsh hK).mono (by
    rintro e w' (⟨c, q, u, rfl, h1, h2, h3⟩ | ⟨_, h1, _⟩)
    · refine ⟨c, q, rfl, nums_own h2 (fun i hi => ?_), h3⟩
      have := Sh.Full.unique h1 hF i (by rw [shOf_n]; exact hi) rfl
      simp [hoursT, hi, this]
    · exact absurd hF.fit h1.none)
theorem Early_no (p : Option Addr) (cl K : Nat) (l : List Ld) (w : World) (hL : LoadsAt w p l) (hl : l.length ≤ 256) (hok : ∀ x ∈ l, okB x = true) (hsh : l.any longB = false) (hK : 1 ≤ K ∧ K ≤ 64) (hO : (shOf l K).Over (fun _ => true)) :
    Calls Try.prog 29 #[.slice p l.length cl, .int .i64 K] w fun e w' => e = .returned (.tuple #[nilV, .int .i64 70]) ∧ Adds w w' :=
  (Early_any p cl K l w hL hl hok hsh hK).mono (by
    rintro e w' (⟨c, q, u, rfl, h1, h2, h3⟩ | ⟨rfl, _, h⟩)
    · exact absurd h1.fit hO.none
    · exact ⟨rfl, h⟩)
theorem REarly_yes (p ps : Option Addr) (cl cs K : Nat) (l : List Ld) (S : Nat → Bool) (w : World) (t : Nat → Nat) (hL : LoadsAt w p l) (hS : BoolsAt w ps l.length S) (hl : l.length ≤ 256) (hok : ∀ x ∈ l, okB x = true) (hK : 1 ≤ K ∧ K ≤ 64) (hF : (shOf l K).Full S t) :
    Calls Try.prog 31 #[.slice p l.length cl, .int .i64 K, .slice ps l.length cs] w fun e w' => ∃ c q, e = .returned (.tuple #[.slice q l.length c, .bool true]) ∧ NumsAt w' q l.length (fun i => if S i = true then (t i : Int) else -1) ∧ Adds w w' :=
  (REarly_any p ps cl cs K l S w hL hS hl hok hK).mono (by
    rintro e w' (⟨c, q, u, rfl, h1, h2, h3⟩ | ⟨_, h1, _⟩)
    · refine ⟨c, q, rfl, nums_own h2 (fun i hi => ?_), h3⟩
      rw [outT_get hi]
      by_cases c : S i = true
      · have := Sh.Full.unique h1 hF i (by rw [shOf_n]; exact hi) c
        rw [if_pos c, if_pos c, this]
      · rw [if_neg c, if_neg c]
    · exact absurd hF.fit h1.none)
theorem REarly_no (p ps : Option Addr) (cl cs K : Nat) (l : List Ld) (S : Nat → Bool) (w : World) (hL : LoadsAt w p l) (hS : BoolsAt w ps l.length S) (hl : l.length ≤ 256) (hok : ∀ x ∈ l, okB x = true) (hK : 1 ≤ K ∧ K ≤ 64) (hO : (shOf l K).Over S) :
    Calls Try.prog 31 #[.slice p l.length cl, .int .i64 K, .slice ps l.length cs] w fun e w' => e = .returned (.tuple #[nilV, .bool false]) ∧ Adds w w' :=
  (REarly_any p ps cl cs K l S w hL hS hl hok hK).mono (by
    rintro e w' (⟨c, q, u, rfl, h1, h2, h3⟩ | ⟨rfl, _, h⟩)
    · exact absurd h1.fit hO.none
    · exact ⟨rfl, h⟩)
theorem Fits_at (p : Option Addr) (cl K : Nat) (l : List Ld) (w : World) (hL : LoadsAt w p l) (hl : l.length ≤ 256) (hok : ∀ x ∈ l, okB x = true) (hK : 1 ≤ K ∧ K ≤ 64) (b : Bool) (hb : b = true ↔ CanDry l K) :
    Calls Try.prog 15 #[.slice p l.length cl, .int .i64 K] w fun e w' => e = .returned (.tuple #[.bool b, .int .i64 0]) ∧ Adds w w' :=
  (Fits_any p cl l K w (by unfold maxLen; omega) hL).mono (by
    rintro e w' ⟨v, rfl, _, h4, h5⟩
    have h0 := checkK_ok (by omega) hok (show (1 : Int) ≤ (K : Int) ∧ (K : Int) ≤ 64 by omega) (l := l)
    have hv : v = b := by
      have := h4 h0
      cases v <;> cases b <;> simp_all
    exact ⟨by rw [h0, hv], h5⟩)

set_option maxRecDepth 100000 in
set_option maxHeartbeats 2000000 in
theorem early_law (p : Option Addr) (cl : Nat) (l : List Ld) (x : Int) (w : World) (hL : LoadsAt w p l) (hcl : l.length ≤ cl) (hmx : cl ≤ maxLen) :
    Calls Try.prog 7 #[.slice p l.length cl, .int .i64 x] w fun e w' => e = .returned (.bool true) ∧ Adds w w' := by
  have HTM := Lib.hid (tame_at p cl 20 l w hL (by omega) hcl hmx)
  have HTS := Lib.hid (fun (W : World) (hW : Adds w W) => tame_short p cl 20 l W (hL.later hW) (by omega) hcl hmx)
  generalize l.length = N at *
  clear hL hcl hmx
  go_enter Try.func7, Try.ntmps7
  obtain ⟨hx0, hx1⟩ := wmod x 4 (by omega) (by omega)
  go_upto_region 2 with fail
  obtain ⟨K, hK⟩ : ∃ K : Nat, (K : Int) = 1 + wrap64 ((IntKind.u64.wrap x).tmod 4) := ⟨(1 + wrap64 ((IntKind.u64.wrap x).tmod 4)).toNat, by omega⟩
  simp only [← hK]
  have hKb : 1 ≤ K ∧ K ≤ 64 := by omega
  clear hK hx0 hx1
  go_upto_region 3 with (go_at_call 13; refine HTM.out.mono ?_; rintro e w1 ⟨c0, q0, l0, rfl, h1, h2, h3, _, hb1⟩; have HL0 := Lib.hid h1; have HOK0 := Lib.hid h3; have HB1 := Lib.hid hb1; clear h1 h3 hb1)
  have HRS := Lib.hid (RShort_any q0 c0 l0 w1 HL0.out (by omega))
  have HG0 := Lib.hid (fun (W : World) (hW : Adds w1 W) => give_at q0 c0 l0 W (HL0.out.later hW) (by omega))
  have HE0 := Lib.hid (fun (q2 : Option Addr) (c2 : Nat) (W : World) (hW : LoadsAt W q2 l0) (hs : l0.any longB = true) => Early_long q2 c2 K l0 W hW (by omega) HOK0.out hs hKb)
  have HB0 := Lib.hid (fun (q2 : Option Addr) (c2 : Nat) (W : World) (hW : LoadsAt W q2 l0) (hs : l0.any longB = true) => Best_long q2 c2 K l0 W hW (by omega) HOK0.out hs hKb)
  obtain ⟨m0, hm0⟩ : ∃ m, m = l0.length := ⟨_, rfl⟩
  rw [← hm0] at h2 HRS HG0 HE0 HB0 ⊢
  clear hm0 HTM HL0 HOK0
  cases hlg : l0.any longB with
  | true =>
    simp only [hlg, Bool.not_true] at HRS
    have HLG := Lib.hid hlg
    clear hlg
    go_upto_region 4 with (go_at_call 28; refine HRS.out.mono ?_; rintro e w2 ⟨rfl, hb2⟩; have HB2 := Lib.hid hb2; clear hb2)
    go_upto_region 5 with (first
      | (go_at_call 16; refine (HG0.out _ HB2.out).mono ?_; rintro e w3 ⟨c3, q3, rfl, hq3, hb3⟩; have HQ3 := Lib.hid hq3; have HB3 := Lib.hid hb3; clear hq3 hb3)
      | (go_at_call 29; refine (HE0.out _ _ _ HQ3.out HLG.out).mono ?_; rintro e w4 ⟨rfl, hb4⟩; have HB4 := Lib.hid hb4; clear hb4))
    go_upto_region 6 with (first
      | (go_at_call 16; refine (HG0.out _ ((HB2.out.trans HB3.out).trans HB4.out)).mono ?_; rintro e w5 ⟨c5, q5, rfl, hq5, hb5⟩; have HQ5 := Lib.hid hq5; have HB5 := Lib.hid hb5; clear hq5 hb5)
      | (go_at_call 30; refine (HB0.out _ _ _ HQ5.out HLG.out).mono ?_; rintro e w6 ⟨rfl, hb6⟩; have HB6 := Lib.hid hb6; clear hb6))
    have HAD := Lib.hid (((((HB1.out.trans HB2.out).trans HB3.out).trans HB4.out).trans HB5.out).trans HB6.out)
    clear HRS HG0 HE0 HB0 HB1 HB2 HB3 HB4 HB5 HB6 HQ3 HQ5 HLG
    go_upto_region 9 with (go_at_call 13; refine (HTS.out _ HAD.out).mono ?_; rintro e w7 ⟨c, q, l', rfl, h1, h2, h3, h4, hb⟩; have HL := Lib.hid h1; have HOK := Lib.hid h3; have HSH := Lib.hid h4; have HA := Lib.hid (HAD.out.trans hb); clear h1 h3 h4 hb)
    have hl' : l'.length ≤ 256 := by omega
    have hokN : ∀ x ∈ l', okN x := fun x hx => okB_okN (HOK.out x hx)
    have HAL := Lib.hid (fun (W : World) => All_any l'.length W hl')
    have HGV := Lib.hid (fun (W : World) (hW : Adds w7 W) => give_at q c l' W (HL.out.later hW) (by omega))
    have hdf := dry_fit w (K := K) hokN HSH.out hl' (by omega)
    rcases Sh.full_or (shOf l' K) (shOf_lt hokN) (fun _ => true) with ⟨t, ht⟩ | ho
    · have HEA := Lib.hid (fun (q2 : Option Addr) (c2 : Nat) (W : World) (hW : LoadsAt W q2 l') => Early_yes q2 c2 K l' W t hW hl' HOK.out (short_any HSH.out) hKb ht)
      have HRE := Lib.hid (fun (ps : Option Addr) (cs : Nat) (W : World) (hW : Adds w7 W) (hS : BoolsAt W ps l'.length (fun _ => true)) => REarly_yes q ps c cs K l' _ W t (HL.out.later hW) hS hl' HOK.out hKb ht)
      have HFT := Lib.hid (fun (q2 : Option Addr) (c2 : Nat) (W : World) (hW : LoadsAt W q2 l') => Fits_at q2 c2 K l' W hW hl' HOK.out hKb true ⟨fun _ => hdf.2 ht.fit, fun _ => rfl⟩)
      obtain ⟨m, hm⟩ : ∃ m, m = l'.length := ⟨_, rfl⟩
      rw [← hm] at h2 hl' HAL HGV HEA HRE HFT ⊢
      clear hdf ht hokN hm HTS
      go_upto_region 10 with (first
        | (go_at_call 16; refine (HGV.out _ (Adds.refl _)).mono ?_; rintro e w8 ⟨c8, q8, rfl, hq8, hb8⟩; have HQ8 := Lib.hid hq8; have HB8 := Lib.hid hb8; clear hq8 hb8)
        | (go_at_call 29; refine (HEA.out _ _ _ HQ8.out).mono ?_; rintro e w9 ⟨c9, q9, rfl, hq9, hb9⟩; have HQ9 := Lib.hid hq9; have HB9 := Lib.hid hb9; clear hq9 hb9))
      go_upto_region 11 with (first
        | (go_at_call 32; refine (HAL.out _).mono ?_; rintro e wa ⟨qa, ca, rfl, hqa, hba⟩; have HQA := Lib.hid hqa; have HBA := Lib.hid hba; clear hqa hba)
        | (go_at_call 31; refine (HRE.out _ _ _ ((HB8.out.trans HB9.out).trans HBA.out) HQA.out).mono ?_; rintro e wb ⟨cb, qb, rfl, hqb, hbb⟩; have HQB := Lib.hid hqb; have HBB := Lib.hid hbb; clear hqb hbb))
      go_upto_region 12 with (first
        | (go_at_call 16; refine (HGV.out _ (((HB8.out.trans HB9.out).trans HBA.out).trans HBB.out)).mono ?_; rintro e wc ⟨cc, qc, rfl, hqc, hbc⟩; have HQC := Lib.hid hqc; have HBC := Lib.hid hbc; clear hqc hbc)
        | (go_at_call 15; refine (HFT.out _ _ _ HQC.out).mono ?_; rintro e wd ⟨rfl, hbd⟩; have HBD := Lib.hid hbd; clear hbd))
      have HIN := Lib.hid (fun (c1 c2 : Nat) (W : World) (hW : Adds wd W) => ints_same q9 qb c1 c2 m (fun i => (t i : Int)) W (HQ9.out.later ((((HBA.out.trans HBB.out).trans HBC.out).trans HBD.out).trans hW)) ((HQB.out.congr (g := fun i => (t i : Int)) (fun i _ => by simp)).later ((HBC.out.trans HBD.out).trans hW)) hl')
      go_wp2_with (first
        | (go_at_call 33; refine (HIN.out _ _ _ (Adds.refl _)).mono ?_; rintro e we ⟨rfl, hbe⟩; have HBE := Lib.hid hbe; clear hbe)
        | (go_at_call 17; refine (awake_any _).mono ?_; rintro e wf ⟨rfl, hbf⟩))
      go_ret
      exact ⟨rfl, ((((((((HA.out.trans HB8.out).trans HB9.out).trans HBA.out).trans HBB.out).trans HBC.out).trans HBD.out).trans HBE.out).trans hbf)⟩
    · have HEA := Lib.hid (fun (q2 : Option Addr) (c2 : Nat) (W : World) (hW : LoadsAt W q2 l') => Early_no q2 c2 K l' W hW hl' HOK.out (short_any HSH.out) hKb ho)
      have HRE := Lib.hid (fun (ps : Option Addr) (cs : Nat) (W : World) (hW : Adds w7 W) (hS : BoolsAt W ps l'.length (fun _ => true)) => REarly_no q ps c cs K l' _ W (HL.out.later hW) hS hl' HOK.out hKb ho)
      have HFT := Lib.hid (fun (q2 : Option Addr) (c2 : Nat) (W : World) (hW : LoadsAt W q2 l') => Fits_at q2 c2 K l' W hW hl' HOK.out hKb false ⟨fun h => (by cases h), fun h => absurd (hdf.1 h) ho.none⟩)
      obtain ⟨m, hm⟩ : ∃ m, m = l'.length := ⟨_, rfl⟩
      rw [← hm] at h2 hl' HAL HGV HEA HRE HFT ⊢
      clear hdf ho hokN hm HTS
      go_upto_region 10 with (first
        | (go_at_call 16; refine (HGV.out _ (Adds.refl _)).mono ?_; rintro e w8 ⟨c8, q8, rfl, hq8, hb8⟩; have HQ8 := Lib.hid hq8; have HB8 := Lib.hid hb8; clear hq8 hb8)
        | (go_at_call 29; refine (HEA.out _ _ _ HQ8.out).mono ?_; rintro e w9 ⟨rfl, hb9⟩; have HB9 := Lib.hid hb9; clear hb9))
      go_upto_region 11 with (first
        | (go_at_call 32; refine (HAL.out _).mono ?_; rintro e wa ⟨qa, ca, rfl, hqa, hba⟩; have HQA := Lib.hid hqa; have HBA := Lib.hid hba; clear hqa hba)
        | (go_at_call 31; refine (HRE.out _ _ _ ((HB8.out.trans HB9.out).trans HBA.out) HQA.out).mono ?_; rintro e wb ⟨rfl, hbb⟩; have HBB := Lib.hid hbb; clear hbb))
      go_upto_region 12 with (first
        | (go_at_call 16; refine (HGV.out _ (((HB8.out.trans HB9.out).trans HBA.out).trans HBB.out)).mono ?_; rintro e wc ⟨cc, qc, rfl, hqc, hbc⟩; have HQC := Lib.hid hqc; have HBC := Lib.hid hbc; clear hqc hbc)
        | (go_at_call 15; refine (HFT.out _ _ _ HQC.out).mono ?_; rintro e wd ⟨rfl, hbd⟩; have HBD := Lib.hid hbd; clear hbd))
      go_wp2_with (go_at_call 17; refine (awake_any _).mono ?_; rintro e wf ⟨rfl, hbf⟩)
      go_ret
      exact ⟨rfl, (((((((HA.out.trans HB8.out).trans HB9.out).trans HBA.out).trans HBB.out).trans HBC.out).trans HBD.out).trans hbf)⟩
  | false =>
    simp only [hlg, Bool.not_false] at HRS
    clear hlg
    go_upto_region 8 with (go_at_call 28; refine HRS.out.mono ?_; rintro e w2 ⟨rfl, hb2⟩; have HB2 := Lib.hid hb2; clear hb2)
    have HAD := Lib.hid (HB1.out.trans HB2.out)
    clear HRS HG0 HE0 HB0 HB1 HB2
    go_upto_region 9 with (go_at_call 13; refine (HTS.out _ HAD.out).mono ?_; rintro e w7 ⟨c, q, l', rfl, h1, h2, h3, h4, hb⟩; have HL := Lib.hid h1; have HOK := Lib.hid h3; have HSH := Lib.hid h4; have HA := Lib.hid (HAD.out.trans hb); clear h1 h3 h4 hb)
    have hl' : l'.length ≤ 256 := by omega
    have hokN : ∀ x ∈ l', okN x := fun x hx => okB_okN (HOK.out x hx)
    have HAL := Lib.hid (fun (W : World) => All_any l'.length W hl')
    have HGV := Lib.hid (fun (W : World) (hW : Adds w7 W) => give_at q c l' W (HL.out.later hW) (by omega))
    have hdf := dry_fit w (K := K) hokN HSH.out hl' (by omega)
    rcases Sh.full_or (shOf l' K) (shOf_lt hokN) (fun _ => true) with ⟨t, ht⟩ | ho
    · have HEA := Lib.hid (fun (q2 : Option Addr) (c2 : Nat) (W : World) (hW : LoadsAt W q2 l') => Early_yes q2 c2 K l' W t hW hl' HOK.out (short_any HSH.out) hKb ht)
      have HRE := Lib.hid (fun (ps : Option Addr) (cs : Nat) (W : World) (hW : Adds w7 W) (hS : BoolsAt W ps l'.length (fun _ => true)) => REarly_yes q ps c cs K l' _ W t (HL.out.later hW) hS hl' HOK.out hKb ht)
      have HFT := Lib.hid (fun (q2 : Option Addr) (c2 : Nat) (W : World) (hW : LoadsAt W q2 l') => Fits_at q2 c2 K l' W hW hl' HOK.out hKb true ⟨fun _ => hdf.2 ht.fit, fun _ => rfl⟩)
      obtain ⟨m, hm⟩ : ∃ m, m = l'.length := ⟨_, rfl⟩
      rw [← hm] at h2 hl' HAL HGV HEA HRE HFT ⊢
      clear hdf ht hokN hm HTS
      go_upto_region 10 with (first
        | (go_at_call 16; refine (HGV.out _ (Adds.refl _)).mono ?_; rintro e w8 ⟨c8, q8, rfl, hq8, hb8⟩; have HQ8 := Lib.hid hq8; have HB8 := Lib.hid hb8; clear hq8 hb8)
        | (go_at_call 29; refine (HEA.out _ _ _ HQ8.out).mono ?_; rintro e w9 ⟨c9, q9, rfl, hq9, hb9⟩; have HQ9 := Lib.hid hq9; have HB9 := Lib.hid hb9; clear hq9 hb9))
      go_upto_region 11 with (first
        | (go_at_call 32; refine (HAL.out _).mono ?_; rintro e wa ⟨qa, ca, rfl, hqa, hba⟩; have HQA := Lib.hid hqa; have HBA := Lib.hid hba; clear hqa hba)
        | (go_at_call 31; refine (HRE.out _ _ _ ((HB8.out.trans HB9.out).trans HBA.out) HQA.out).mono ?_; rintro e wb ⟨cb, qb, rfl, hqb, hbb⟩; have HQB := Lib.hid hqb; have HBB := Lib.hid hbb; clear hqb hbb))
      go_upto_region 12 with (first
        | (go_at_call 16; refine (HGV.out _ (((HB8.out.trans HB9.out).trans HBA.out).trans HBB.out)).mono ?_; rintro e wc ⟨cc, qc, rfl, hqc, hbc⟩; have HQC := Lib.hid hqc; have HBC := Lib.hid hbc; clear hqc hbc)
        | (go_at_call 15; refine (HFT.out _ _ _ HQC.out).mono ?_; rintro e wd ⟨rfl, hbd⟩; have HBD := Lib.hid hbd; clear hbd))
      have HIN := Lib.hid (fun (c1 c2 : Nat) (W : World) (hW : Adds wd W) => ints_same q9 qb c1 c2 m (fun i => (t i : Int)) W (HQ9.out.later ((((HBA.out.trans HBB.out).trans HBC.out).trans HBD.out).trans hW)) ((HQB.out.congr (g := fun i => (t i : Int)) (fun i _ => by simp)).later ((HBC.out.trans HBD.out).trans hW)) hl')
      go_wp2_with (first
        | (go_at_call 33; refine (HIN.out _ _ _ (Adds.refl _)).mono ?_; rintro e we ⟨rfl, hbe⟩; have HBE := Lib.hid hbe; clear hbe)
        | (go_at_call 17; refine (awake_any _).mono ?_; rintro e wf ⟨rfl, hbf⟩))
      go_ret
      exact ⟨rfl, ((((((((HA.out.trans HB8.out).trans HB9.out).trans HBA.out).trans HBB.out).trans HBC.out).trans HBD.out).trans HBE.out).trans hbf)⟩
    · have HEA := Lib.hid (fun (q2 : Option Addr) (c2 : Nat) (W : World) (hW : LoadsAt W q2 l') => Early_no q2 c2 K l' W hW hl' HOK.out (short_any HSH.out) hKb ho)
      have HRE := Lib.hid (fun (ps : Option Addr) (cs : Nat) (W : World) (hW : Adds w7 W) (hS : BoolsAt W ps l'.length (fun _ => true)) => REarly_no q ps c cs K l' _ W (HL.out.later hW) hS hl' HOK.out hKb ho)
      have HFT := Lib.hid (fun (q2 : Option Addr) (c2 : Nat) (W : World) (hW : LoadsAt W q2 l') => Fits_at q2 c2 K l' W hW hl' HOK.out hKb false ⟨fun h => (by cases h), fun h => absurd (hdf.1 h) ho.none⟩)
      obtain ⟨m, hm⟩ : ∃ m, m = l'.length := ⟨_, rfl⟩
      rw [← hm] at h2 hl' HAL HGV HEA HRE HFT ⊢
      clear hdf ho hokN hm HTS
      go_upto_region 10 with (first
        | (go_at_call 16; refine (HGV.out _ (Adds.refl _)).mono ?_; rintro e w8 ⟨c8, q8, rfl, hq8, hb8⟩; have HQ8 := Lib.hid hq8; have HB8 := Lib.hid hb8; clear hq8 hb8)
        | (go_at_call 29; refine (HEA.out _ _ _ HQ8.out).mono ?_; rintro e w9 ⟨rfl, hb9⟩; have HB9 := Lib.hid hb9; clear hb9))
      go_upto_region 11 with (first
        | (go_at_call 32; refine (HAL.out _).mono ?_; rintro e wa ⟨qa, ca, rfl, hqa, hba⟩; have HQA := Lib.hid hqa; have HBA := Lib.hid hba; clear hqa hba)
        | (go_at_call 31; refine (HRE.out _ _ _ ((HB8.out.trans HB9.out).trans HBA.out) HQA.out).mono ?_; rintro e wb ⟨rfl, hbb⟩; have HBB := Lib.hid hbb; clear hbb))
      go_upto_region 12 with (first
        | (go_at_call 16; refine (HGV.out _ (((HB8.out.trans HB9.out).trans HBA.out).trans HBB.out)).mono ?_; rintro e wc ⟨cc, qc, rfl, hqc, hbc⟩; have HQC := Lib.hid hqc; have HBC := Lib.hid hbc; clear hqc hbc)
        | (go_at_call 15; refine (HFT.out _ _ _ HQC.out).mono ?_; rintro e wd ⟨rfl, hbd⟩; have HBD := Lib.hid hbd; clear hbd))
      go_wp2_with (go_at_call 17; refine (awake_any _).mono ?_; rintro e wf ⟨rfl, hbf⟩)
      go_ret
      exact ⟨rfl, (((((((HA.out.trans HB8.out).trans HB9.out).trans HBA.out).trans HBB.out).trans HBC.out).trans HBD.out).trans hbf)⟩
end Go.Proofs.Ytkofnhimgegcnaa

namespace Go.Proofs.Ytkofnhimgegcnaa
open Go Go.RowKit Go.Sort

/-- The order of the loads: the greater worth first, of equal ones the first. -/
def bef (v : Nat → Int) (x y : Nat) : Prop := v y < v x ∨ (v x = v y ∧ x < y)
theorem bef_trans {v : Nat → Int} {x y z : Nat} (h : bef v x y) (k : bef v y z) : bef v x z := by unfold bef at *; omega
def SortedW (v : Nat → Int) (n : Nat) (X : Nat → Nat) : Prop := (∀ a, a < n → X a < n) ∧ (∀ a b, a < n → b < n → X a = X b → a = b) ∧ ∀ a b, a < b → b < n → bef v (X a) (X b)
def DoneW (v : Nat → Int) (i : Nat) (X : Nat → Nat) : Prop := SortedW v i X ∧ ∀ a, i ≤ a → X a = a
structure MidW (v : Nat → Int) (i j : Nat) (X : Nat → Nat) : Prop where
  inn : ∀ a, a ≤ i → X a ≤ i
  inj : ∀ a b, a ≤ i → b ≤ i → X a = X b → a = b
  rest : ∀ a, i < a → X a = a
  le : j ≤ i
  me : X j = i
  ord : ∀ a b, a < b → b ≤ i → b ≠ j → bef v (X a) (X b)
def swapF (X : Nat → Nat) (j : Nat) : Nat → Nat := fun a => if a = j then X (j - 1) else if a = j - 1 then X j else X a
theorem DoneW.one (v : Nat → Int) : DoneW v 1 (fun a => a) := ⟨⟨fun a h => h, fun a b _ _ h => h, fun a b h1 h2 => by omega⟩, fun a _ => rfl⟩
theorem DoneW.start {v : Nat → Int} {i : Nat} {X : Nat → Nat} (h : DoneW v i X) : MidW v i i X := by
  obtain ⟨⟨h1, h2, h3⟩, h4⟩ := h
  have hi := h4 i (Nat.le_refl _)
  refine ⟨fun a ha => ?_, fun a b ha hb e => ?_, fun a ha => h4 a (by omega), Nat.le_refl _, hi, fun a b hab hb hne => h3 a b hab (by omega)⟩
  · by_cases c : a = i
    · subst c; omega
    · have := h1 a (by omega); omega
  · by_cases c : a = i
    · by_cases d : b = i
      · omega
      · subst c; have := h1 b (by omega); omega
    · by_cases d : b = i
      · subst d; have := h1 a (by omega); omega
      · exact h2 a b (by omega) (by omega) e
theorem MidW.swap {v : Nat → Int} {i j : Nat} {X : Nat → Nat} (h : MidW v i j X) (h0 : 0 < j) (hv : v (X (j - 1)) < v (X j)) : MidW v i (j - 1) (swapF X j) := by
  have hj := h.le
  refine ⟨fun a ha => ?_, fun a b ha hb e => ?_, fun a ha => ?_, by omega, ?_, fun a b hab hb hne => ?_⟩
  · unfold swapF
    split
    · exact h.inn _ (by omega)
    · split
      · exact h.inn _ (by omega)
      · exact h.inn _ ha
  · unfold swapF at e
    have i1 := h.inj (j - 1) (by omega)
    split at e <;> split at e <;> (try split at e) <;> (try split at e) <;> first | omega | (have := h.inj _ _ (by omega) (by omega) e; omega)
  · unfold swapF
    rw [if_neg (by omega), if_neg (by omega)]
    exact h.rest a ha
  · unfold swapF
    rw [if_neg (by omega), if_pos rfl]
    exact h.me
  · unfold swapF
    by_cases c : b = j
    · rw [if_pos c]
      by_cases d : a = j - 1
      · rw [if_neg (by omega), if_pos d]
        exact .inl hv
      · rw [if_neg (by omega), if_neg d]
        exact h.ord a (j - 1) (by omega) (by omega) (by omega)
    · rw [if_neg c, if_neg hne]
      by_cases d : a = j
      · rw [if_pos d]
        exact h.ord (j - 1) b (by omega) hb c
      · rw [if_neg d]
        by_cases f : a = j - 1
        · rw [if_pos f]
          exact h.ord j b (by omega) hb c
        · rw [if_neg f]
          exact h.ord a b hab hb c
theorem MidW.stop {v : Nat → Int} {i j : Nat} {X : Nat → Nat} (h : MidW v i j X) (h0 : j = 0 ∨ ¬ v (X (j - 1)) < v (X j)) : DoneW v (i + 1) X := by
  refine ⟨⟨fun a ha => by have := h.inn a (by omega); omega, fun a b ha hb => h.inj a b (by omega) (by omega), fun a b hab hb => ?_⟩, fun a ha => h.rest a (by omega)⟩
  by_cases c : b = j
  · subst c
    rcases h0 with h0 | h0
    · omega
    · have hl := h.inn (b - 1) (by omega)
      have hm := h.me
      have hne : X (b - 1) ≠ X b := fun e => by have := h.inj _ _ (by omega) (by omega) e; omega
      have hlast : bef v (X (b - 1)) (X b) := by unfold bef; omega
      by_cases d : a = b - 1
      · rw [d]; exact hlast
      · exact bef_trans (h.ord a (b - 1) (by omega) (by omega) (by omega)) hlast
  · exact h.ord a b hab (by omega) c

/-- The list of an order. -/
def lstX (X : Nat → Nat) (n : Nat) : List Int := (List.range n).map fun i => (X i : Int)
theorem lstX_len (X : Nat → Nat) (n : Nat) : (lstX X n).length = n := by simp [lstX]
theorem lstX_get {X : Nat → Nat} {n i : Nat} (h : i < n) : (lstX X n)[i]? = some (X i : Int) := by
  unfold lstX
  rw [List.getElem?_map, List.getElem?_range h]
  rfl
theorem lstX_swap {X : Nat → Nat} {n j : Nat} (h0 : 0 < j) (hj : j < n) : ((lstX X n).set j (X (j - 1) : Int)).set (j - 1) (X j : Int) = lstX (swapF X j) n ∧ ((lstX X n).set (j - 1) (X j : Int)).set j (X (j - 1) : Int) = lstX (swapF X j) n := by
  have key : ∀ i, i < n → (((lstX X n).set j (X (j - 1) : Int)).set (j - 1) (X j : Int))[i]? = (lstX (swapF X j) n)[i]? := fun i hi => by
    rw [lstX_get hi, List.getElem?_set, List.getElem?_set, List.length_set, lstX_len, lstX_get hi]
    unfold swapF
    by_cases c : j - 1 = i
    · rw [if_pos c, if_pos (by omega), if_neg (by omega), if_pos c.symm]
    · rw [if_neg c]
      by_cases d : j = i
      · rw [if_pos d, if_pos (by omega), if_pos d.symm]
      · rw [if_neg d, if_neg (fun e => d e.symm), if_neg (fun e => c e.symm)]
  have e1 : ((lstX X n).set j (X (j - 1) : Int)).set (j - 1) (X j : Int) = lstX (swapF X j) n := by
    refine List.ext_getElem? fun i => ?_
    by_cases hi : i < n
    · exact key i hi
    · rw [List.getElem?_eq_none (by simp [lstX_len]; omega), List.getElem?_eq_none (by rw [lstX_len]; omega)]
  exact ⟨e1, by rw [List.set_comm _ _ (by omega)]; exact e1⟩

theorem cmp_test (a b : Int) : decide (cmpT a b < 0) = decide (a < b) := by
  unfold cmpT
  by_cases h : a < b
  · simp [h]
  · by_cases h' : b < a <;> simp [h, h']

set_option maxRecDepth 100000 in
set_option maxHeartbeats 2000000 in
theorem cmpW_any (cb g off n cl : Nat) (a b : Nat) (v : Nat → Int) (w : World) (hb : w.cell? ⟨cb, 0, none⟩ = some (.slice (some ⟨g, off, none⟩) n cl)) (ha : a < n) (hbn : b < n) (_hn : n ≤ 256) (ka : w.cell? ⟨g, off + a * 4 + 3, none⟩ = some (.int .i64 (v a))) (kb : w.cell? ⟨g, off + b * 4 + 3, none⟩ = some (.int .i64 (v b))) :
    Calls Try.prog 68 #[.int .i64 a, .int .i64 b, .pointer (some ⟨cb, 0, none⟩)] w fun e w' => e = .returned (.int .i64 (cmpT (v b) (v a))) ∧ ∃ q, w' = w.drewN q := by
  have ha2 : (a : Int) < (n : Int) := by omega
  have hb2 : (b : Int) < (n : Int) := by omega
  have ha0 : (0 : Int) ≤ (a : Int) := by omega
  have hb0 : (0 : Int) ≤ (b : Int) := by omega
  have hc : ∀ q, Calls Try.prog 58 #[.int .i64 (v b), .int .i64 (v a)] (w.drewN q) fun e w' => e = .returned (.int .i64 (cmpT (v b) (v a))) ∧ w' = w.drewN q := fun q => (cmp_i _ _ _).mono (fun e w' ⟨h1, h2⟩ => ⟨h1, h2.symm⟩)
  obtain ⟨x, hx⟩ : ∃ x, x = v a := ⟨_, rfl⟩
  obtain ⟨y, hy⟩ : ∃ y, y = v b := ⟨_, rfl⟩
  rw [← hx] at ka hc ⊢
  rw [← hy] at kb hc ⊢
  clear hx hy
  go_enter Try.func68, Try.ntmps68
  go_upto_region 1 with fail
  go_quiet ((go_at_call 58; exact Calls.quiet_of_same (hc _)))
  go_wp2
  go_ret
  exact ⟨rfl, _, rfl⟩

theorem Touch.drewN {O : Nat → Prop} {a b : World} (h : Touch O a b) (q : Nat) : Touch O a (b.drewN q) := h.behind ((Adds.refl b).drewN q)
theorem Touch.drew {O : Nat → Prop} {a b : World} (h : Touch O a b) : Touch O a b.drew := h.behind (Adds.refl b).drew
theorem RowI.drew {t : TypeId} {k : IntKind} {w : World} {g cap : Nat} {l : List Int} (h : RowI t k w g cap l) : RowI t k w.drew g cap l := h
theorem RowI.drewN {t : TypeId} {k : IntKind} {w : World} {g cap : Nat} {l : List Int} (h : RowI t k w g cap l) (q : Nat) : RowI t k (w.drewN q) g cap l := h
/-- What a sort of an order leaves. -/
def SortW (g cap n : Nat) (v : Nat → Int) (w : World) (e : Ending) (w' : World) : Prop := e = .returned (.tuple #[]) ∧ ∃ X, SortedW v n X ∧ RowI 3 .i64 w' g cap (lstX X n) ∧ Touch (fun z => z = g) w w'

set_option maxRecDepth 100000 in
set_option maxHeartbeats 4000000 in
theorem insW_any (g cap n : Nat) (fv : Value) (cb : Nat) (v : Nat → Int) (w : World) (hfv : fv = .func (.func 68) #[] #[.pointer (some ⟨cb, 0, none⟩)]) (hn : n ≤ 256) (hr : RowI 3 .i64 w g cap (lstX (fun a => a) n))
    (hc : ∀ a b, a < n → b < n → ∀ W, Touch (fun z => z = g) w W → Calls Try.prog 68 #[.int .i64 a, .int .i64 b, .pointer (some ⟨cb, 0, none⟩)] W fun e w' => e = .returned (.int .i64 (cmpT (v b) (v a))) ∧ ∃ q, w' = W.drewN q) :
    Calls Try.prog 104 #[.slice (some ⟨g, 0, none⟩) n cap, .int .i64 0, .int .i64 n, fv] w (SortW g cap n v w) := by
  subst hfv
  unfold SortW
  have HC := Lib.hid hc
  have HR := Lib.hid hr
  clear hc hr
  go_enter Try.func104, Try.ntmps104
  go_upto_region 1 with fail
  go_loopw [8] (fun v8 wr => ∃ (i : Nat) (X : Nat → Nat), v8 = .int .i64 i ∧ 1 ≤ i ∧ (i ≤ n ∨ i = 1) ∧ Hid (DoneW v i X) ∧ Hid (RowI 3 .i64 wr g cap (lstX X n)) ∧ Hid (Touch (fun z => z = g) w wr)) (fun v8 _ => n - (intOf v8).toNat)
  case atStart => exact ⟨1, fun a => a, by go_num, by omega, by omega, Lib.hid (DoneW.one v), HR, Lib.hid (Touch.refl _ _)⟩
  case round => as_aux_lemma =>
    clear HR
    obtain ⟨i, X, rfl, hi1, hin, HD, HR, HT⟩ := hrel
    by_cases hlt : i < n
    · have hlt2 : (i : Int) < (n : Int) := by omega
      have HM := Lib.hid HD.out.start
      clear HD
      go_upto_region 4 with fail
      go_loopw [9] (fun v9 wr => ∃ (j : Nat) (X : Nat → Nat), v9 = .int .i64 j ∧ j ≤ i ∧ Hid (MidW v i j X) ∧ Hid (RowI 3 .i64 wr g cap (lstX X n)) ∧ Hid (Touch (fun z => z = g) w wr)) (fun v9 _ => (intOf v9).toNat)
      case atStart => exact ⟨i, X, rfl, Nat.le_refl _, HM, HR, HT⟩
      case round => as_aux_lemma =>
        clear HM HR HT
        obtain ⟨j, X, rfl, hji, HM, HR, HT⟩ := hrel
        by_cases hj0 : 0 < j
        · have hjq : (0 : Int) < (j : Int) := by omega
          have hjn : (j : Int) < (n : Int) := by omega
          have hjn1 : (j : Int) - 1 < (n : Int) := by omega
          obtain ⟨p, hp⟩ : ∃ p, j = p + 1 := ⟨j - 1, by omega⟩
          have hpj : (j : Int) - 1 = (p : Int) := by omega
          have c1 := HR.out.cell (lstX_get (X := X) (show j < n by omega))
          have c2 := HR.out.cell (lstX_get (X := X) (show p < n by omega))
          have xn : X j < n := by have := HM.out.inn j (by omega); omega
          have yn : X p < n := by have := HM.out.inn p (by omega); omega
          obtain ⟨x, hx⟩ : ∃ x, x = X j := ⟨_, rfl⟩
          obtain ⟨y, hy⟩ : ∃ y, y = X p := ⟨_, rfl⟩
          rw [← hx] at c1 xn
          rw [← hy] at c2 yn
          have hcal : ∀ q, Calls Try.prog 68 #[.int .i64 x, .int .i64 y, .pointer (some ⟨cb, 0, none⟩)] (wr.drewN q) fun e w' => e = .returned (.int .i64 (cmpT (v y) (v x))) ∧ ∃ m, w' = (wr.drewN q).drewN m := fun q => HC.out x y xn yn _ (HT.out.drewN q)
          obtain ⟨c, hc⟩ : ∃ c, c = cmpT (v y) (v x) := ⟨_, rfl⟩
          rw [← hc] at hcal
          have hct : decide (c < 0) = decide (v y < v x) := by rw [hc]; exact cmp_test _ _
          have HX := Lib.hid hx
          have HY := Lib.hid hy
          have HP := Lib.hid hp
          clear hx hy hc hp
          by_cases hkey : v y < v x
          · have hct' : decide (c < 0) = true := by rw [hct]; exact decide_eq_true hkey
            have hc0 : c < 0 := of_decide_eq_true hct'
            have hsw : lstX (swapF X j) n = ((lstX X n).set j (y : Int)).set p (x : Int) ∧ lstX (swapF X j) n = ((lstX X n).set p (x : Int)).set j (y : Int) := by
              have := lstX_swap (X := X) (n := n) hj0 (by omega)
              rw [show j - 1 = p by have := HP.out; omega, ← HX.out, ← HY.out] at this
              exact ⟨this.1.symm, this.2.symm⟩
            have R1 : Hid (RowI 3 .i64 ((wr.setCell ⟨g, j, none⟩ (.int .i64 y)).setCell ⟨g, p, none⟩ (.int .i64 x)) g cap (lstX (swapF X j) n)) := Lib.hid (by rw [hsw.1]; exact (HR.out.put j y).put p x)
            have R2 : Hid (RowI 3 .i64 ((wr.setCell ⟨g, p, none⟩ (.int .i64 x)).setCell ⟨g, j, none⟩ (.int .i64 y)) g cap (lstX (swapF X j) n)) := Lib.hid (by rw [hsw.2]; exact (HR.out.put p x).put j y)
            have HM2 := Lib.hid (HM.out.swap hj0 (by rw [show j - 1 = p by have := HP.out; omega, ← HX.out, ← HY.out]; exact hkey))
            have f1 := HR.out.free j
            have f2 := HR.out.free p
            clear hct hkey hsw
            go_wp2_with fail
            go_quiet ((go_at_call 68; exact Calls.quiet_of (hcal _)))
            clear hcal hct' hc0
            go_wp2_with fail
            go_region
            go_wp2
            refine ⟨⟨p, swapF X j, by have := HP.out; go_num, by omega, Lib.hid ?_, by first | exact R1 | exact R2, Lib.hid (by first | exact ((HT.out.drewN _).set (p := ⟨g, j, none⟩) rfl _).set (p := ⟨g, p, none⟩) rfl _ | exact ((HT.out.drewN _).set (p := ⟨g, p, none⟩) rfl _).set (p := ⟨g, j, none⟩) rfl _)⟩, by have := HP.out; simp [intOf]; omega⟩
            have := HM2.out
            rw [show j - 1 = p by have := HP.out; omega] at this
            exact this
          · have hct' : decide (c < 0) = false := by rw [hct]; exact decide_eq_false hkey
            have hc0 : ¬ c < 0 := of_decide_eq_false hct'
            have hc1 : 0 ≤ c := by omega
            have HD2 := Lib.hid (HM.out.stop (.inr (by rw [show j - 1 = p by have := HP.out; omega, ← HX.out, ← HY.out]; exact hkey)))
            clear hct hkey hc0
            go_wp2_with fail
            go_quiet ((go_at_call 68; exact Calls.quiet_of (hcal _)))
            clear hcal
            go_wp2
            exact ⟨⟨i + 1, X, by go_num, by omega, by omega, HD2, Lib.hid (HR.out.drewN _), Lib.hid (HT.out.drewN _)⟩, by simp [intOf]; omega⟩
        · have hj00 : j = 0 := by omega
          subst hj00
          have HD2 := Lib.hid (HM.out.stop (.inl rfl))
          go_wp2_with fail
          go_quiet (fail)
          go_wp2
          exact ⟨⟨i + 1, X, by go_num, by omega, by omega, HD2, Lib.hid (HR.out.drewN _), Lib.hid (HT.out.drewN _)⟩, by simp [intOf]; omega⟩
    · have hd : decide ((i : Int) < (n : Int)) = false := decide_eq_false (by omega)
      have hres : SortedW v n X := by
        obtain ⟨⟨h1, h2, h3⟩, _⟩ := HD.out
        by_cases e : i = n
        · subst e; exact ⟨h1, h2, h3⟩
        · have : n = 0 := by omega
          subst this
          exact ⟨fun a ha => by omega, fun a b ha => by omega, fun a b _ hb => by omega⟩
      have HRS := Lib.hid hres
      go_wp2
      go_end0
      exact ⟨rfl, X, HRS.out, HR.out, HT.out⟩
end Go.Proofs.Ytkofnhimgegcnaa

namespace Go.Proofs.Ytkofnhimgegcnaa
open Go Go.RowKit Go.Sort

set_option maxRecDepth 100000 in
set_option maxHeartbeats 400000 in
theorem insW_none (g cap n m : Nat) (fv : Value) (w : World) (_hn : n ≤ 256) (hm : m ≤ 256) : Calls Try.prog 104 #[.slice (some ⟨g, 0, none⟩) n cap, .int .i64 m, .int .i64 m, fv] w fun e w' => e = .returned (.tuple #[]) ∧ w' = w := by
  have hq : decide ((m : Int) + 1 < (m : Int)) = false := decide_eq_false (by omega)
  go_enter Try.func104, Try.ntmps104
  go_upto_region 1 with fail
  go_loopw [8] (fun v8 wr => v8 = .int .i64 ((m : Int) + 1) ∧ wr = w) (fun v8 _ => 0)
  case atStart => exact ⟨by go_num, rfl⟩
  case round =>
    obtain ⟨rfl, rfl⟩ := hrel
    go_wp2
    go_end0
    exact ⟨rfl, rfl⟩

set_option maxRecDepth 100000 in
set_option maxHeartbeats 400000 in
theorem sortW_few (g cap n : Nat) (fv : Value) (v : Nat → Int) (w : World) (hn : n < 20) (hi : Calls Try.prog 104 #[.slice (some ⟨g, 0, none⟩) n cap, .int .i64 0, .int .i64 n, fv] w (SortW g cap n v w)) :
    Calls Try.prog 87 #[.slice (some ⟨g, 0, none⟩) n cap, .int .i64 n, fv] w (SortW g cap n v w) := by
  have HI := Lib.hid hi
  clear hi
  unfold SortW at HI ⊢
  have hq : decide ((20 : Int) ≤ (n : Int)) = false := decide_eq_false (by omega)
  have hq2 : decide ((20 : Int) < (n : Int)) = false := decide_eq_false (by omega)
  go_enter Try.func87, Try.ntmps87
  go_upto_region 2 with fail
  go_loopw [7, 8] (fun v7 v8 wr => v7 = .int .i64 0 ∧ v8 = .int .i64 20 ∧ wr = w) (fun _ _ _ => 0)
  case atStart => exact ⟨rfl, rfl, rfl⟩
  case round =>
    obtain ⟨rfl, rfl, rfl⟩ := hrel
    go_upto_region 7 with (go_at_call 104; refine HI.out.mono ?_; rintro e w1 ⟨rfl, X, h1, h2, h3⟩; have H1 := Lib.hid h1; have H2 := Lib.hid h2; have H3 := Lib.hid h3; clear h1 h2 h3)
    go_loopw [6, 7, 8, 9] (fun v6 _ _ _ wr => v6 = .int .i64 20 ∧ wr = w1) (fun _ _ _ _ _ => 0)
    case atStart => exact ⟨rfl, rfl⟩
    case round =>
      obtain ⟨rfl, rfl⟩ := hrel
      go_wp2
      go_end0
      exact ⟨rfl, X, H1.out, H2.out, H3.out⟩

set_option maxRecDepth 100000 in
set_option maxHeartbeats 400000 in
theorem sortW_twenty (g cap : Nat) (fv : Value) (v : Nat → Int) (w : World) (hi : Calls Try.prog 104 #[.slice (some ⟨g, 0, none⟩) 20 cap, .int .i64 0, .int .i64 20, fv] w (SortW g cap 20 v w)) :
    Calls Try.prog 87 #[.slice (some ⟨g, 0, none⟩) 20 cap, .int .i64 20, fv] w (SortW g cap 20 v w) := by
  have HI := Lib.hid hi
  have HN : Hid (∀ (W : World), Calls Try.prog 104 #[.slice (some ⟨g, 0, none⟩) 20 cap, .int .i64 20, .int .i64 20, fv] W fun e w' => e = .returned (.tuple #[]) ∧ w' = W) := Lib.hid (fun W => insW_none g cap 20 20 fv W (by omega) (by omega))
  clear hi
  unfold SortW at HI ⊢
  go_enter Try.func87, Try.ntmps87
  go_upto_region 2 with fail
  go_loopw [7, 8] (fun v7 v8 wr => (v7 = .int .i64 0 ∧ v8 = .int .i64 20 ∧ wr = w) ∨ (v7 = .int .i64 20 ∧ v8 = .int .i64 40 ∧ ∃ X, Hid (SortedW v 20 X) ∧ Hid (RowI 3 .i64 wr g cap (lstX X 20)) ∧ Hid (Touch (fun z => z = g) w wr))) (fun _ v8 _ => 40 - (intOf v8).toNat)
  case atStart => exact .inl ⟨rfl, rfl, rfl⟩
  case round =>
    rcases hrel with ⟨rfl, rfl, rfl⟩ | ⟨rfl, rfl, X, H1, H2, H3⟩
    · go_wp2_with (go_at_call 104; refine HI.out.mono ?_; rintro e w1 ⟨rfl, X, h1, h2, h3⟩; have H1 := Lib.hid h1; have H2 := Lib.hid h2; have H3 := Lib.hid h3; clear h1 h2 h3)
      exact ⟨.inr ⟨rfl, rfl, X, H1, H2, H3⟩, by simp [intOf]⟩
    · go_upto_region 7 with (go_at_call 104; refine (HN.out _).mono ?_; rintro e w2 ⟨rfl, rfl⟩)
      go_loopw [6, 7, 8, 9] (fun v6 _ _ _ wv => v6 = .int .i64 20 ∧ wv = w2) (fun _ _ _ _ _ => 0)
      case atStart => exact ⟨rfl, rfl⟩
      case round =>
        obtain ⟨rfl, rfl⟩ := hrel
        go_wp2
        go_end0
        exact ⟨rfl, X, H1.out, H2.out, H3.out⟩

set_option maxRecDepth 100000 in
set_option maxHeartbeats 400000 in
theorem sort67 (g cap n cb : Nat) (v : Nat → Int) (w : World) (hn : n ≤ 20) (hr : RowI 3 .i64 w g cap (lstX (fun a => a) n))
    (hc : ∀ a b, a < n → b < n → ∀ W, Touch (fun z => z = g) w W → Calls Try.prog 68 #[.int .i64 a, .int .i64 b, .pointer (some ⟨cb, 0, none⟩)] W fun e w' => e = .returned (.int .i64 (cmpT (v b) (v a))) ∧ ∃ q, w' = W.drewN q) :
    Calls Try.prog 67 #[.slice (some ⟨g, 0, none⟩) n cap, .func (.func 68) #[] #[.pointer (some ⟨cb, 0, none⟩)]] w (SortW g cap n v w) := by
  obtain ⟨fv, hfv⟩ : ∃ fv : Value, fv = .func (.func 68) #[] #[.pointer (some ⟨cb, 0, none⟩)] := ⟨_, rfl⟩
  have hi := insW_any g cap n fv cb v w hfv (by omega) hr hc
  have h87 : Calls Try.prog 87 #[.slice (some ⟨g, 0, none⟩) n cap, .int .i64 n, fv] w (SortW g cap n v w) := by
    by_cases h : n = 20
    · subst h
      exact sortW_twenty g cap fv v w hi
    · exact sortW_few g cap n fv v w (by omega) hi
  rw [← hfv]
  have H87 := Lib.hid h87
  clear h87 hi hc hr hfv
  unfold SortW at H87 ⊢
  go_enter Try.func67, Try.ntmps67
  go_wp2_with (go_at_call 87; refine H87.out.mono ?_; rintro e w1 ⟨rfl, X, h1, h2, h3⟩; have H1 := Lib.hid h1; have H2 := Lib.hid h2; have H3 := Lib.hid h3; clear h1 h2 h3)
  go_end0
  exact ⟨rfl, X, H1.out, H2.out, H3.out⟩
end Go.Proofs.Ytkofnhimgegcnaa

namespace Go.Proofs.Ytkofnhimgegcnaa
open Go Go.RowKit Go.Sort Go.Maps

theorem Sh.Greedy.none (q : Sh) : q.Greedy [] (fun _ => false) := ⟨fun _ h => (by cases h), fun j i h => (by simp at h)⟩
theorem Sh.Greedy.yes {q : Sh} {L : List Nat} {S : Nat → Bool} {x : Nat} (h : q.Greedy L S) (hx : x ∉ L) (hf : q.Fit (putS S x)) : q.Greedy (L ++ [x]) (putS S x) := by
  have hS : S x = false := by
    cases e : S x with
    | false => rfl
    | true => exact absurd (h.inn x e) hx
  refine ⟨fun i hi => ?_, fun j i hj => ?_⟩
  · rcases mem_put.1 hi with e | e
    · exact List.mem_append_left _ (h.inn i e)
    · subst e; simp
  · by_cases c : j < L.length
    · rw [List.getElem?_append_left c] at hj
      have hne : i ≠ x := fun e => hx (e ▸ List.mem_of_getElem? hj)
      have e1 : putS S x i = S i := by simp [putS, hne]
      have e2 : (fun a => putS S x a && decide (a ∈ (L ++ [x]).take j)) = fun a => S a && decide (a ∈ L.take j) := funext fun a => by
        rw [List.take_append_of_le_length (by omega)]
        by_cases d : a = x
        · subst d
          have : a ∉ L.take j := fun m => hx (List.mem_of_mem_take m)
          simp [this]
        · have hb : (a == x) = false := by simpa using d
          simp only [putS, hb, Bool.or_false]
      rw [e1, e2]
      exact h.all j i hj
    · have hj2 := (List.getElem?_eq_some_iff.1 hj).1
      rw [List.length_append, List.length_singleton] at hj2
      have hjl : j = L.length := by omega
      subst hjl
      rw [List.getElem?_append_right (Nat.le_refl _), Nat.sub_self] at hj
      simp at hj
      subst hj
      have e2 : putS (fun a => putS S x a && decide (a ∈ (L ++ [x]).take L.length)) x = putS S x := funext fun a => by
        rw [List.take_left]
        by_cases d : a = x
        · subst d; simp [putS]
        · simp only [putS]
          have hb : (a == x) = false := by simpa using d
          rw [hb, Bool.or_false, Bool.or_false]
          cases e : S a with
          | false => rfl
          | true => simp [h.inn a e]
      rw [e2]
      exact ⟨fun _ => hf, fun _ => by simp [putS]⟩
theorem Sh.Greedy.no {q : Sh} {L : List Nat} {S : Nat → Bool} {x : Nat} (h : q.Greedy L S) (hx : x ∉ L) (hf : ¬ q.Fit (putS S x)) : q.Greedy (L ++ [x]) S := by
  have hS : S x = false := by
    cases e : S x with
    | false => rfl
    | true => exact absurd (h.inn x e) hx
  refine ⟨fun i hi => List.mem_append_left _ (h.inn i hi), fun j i hj => ?_⟩
  by_cases c : j < L.length
  · rw [List.getElem?_append_left c] at hj
    rw [List.take_append_of_le_length (by omega)]
    exact h.all j i hj
  · have hj2 := (List.getElem?_eq_some_iff.1 hj).1
    rw [List.length_append, List.length_singleton] at hj2
    have hjl : j = L.length := by omega
    subst hjl
    rw [List.getElem?_append_right (Nat.le_refl _), Nat.sub_self] at hj
    simp at hj
    subst hj
    have e2 : (fun a => S a && decide (a ∈ (L ++ [x]).take L.length)) = S := funext fun a => by
      rw [List.take_left]
      cases e : S a with
      | false => rfl
      | true => simp [h.inn a e]
    rw [e2, hS]
    exact ⟨fun e => (by cases e), fun e => absurd e hf⟩

/-- The first loads of an order. -/
def ordL (X : Nat → Nat) (k : Nat) : List Nat := (List.range k).map X
theorem ordL_len (X : Nat → Nat) (k : Nat) : (ordL X k).length = k := by simp [ordL]
theorem ordL_succ (X : Nat → Nat) (k : Nat) : ordL X (k + 1) = ordL X k ++ [X k] := by simp [ordL, List.range_succ]
theorem ordL_mem {X : Nat → Nat} {k i : Nat} : i ∈ ordL X k ↔ ∃ a, a < k ∧ X a = i := by simp [ordL]
theorem SortedW.notin {v : Nat → Int} {n k : Nat} {X : Nat → Nat} (h : SortedW v n X) (hk : k < n) : X k ∉ ordL X k := fun hm => by
  obtain ⟨a, h1, h2⟩ := ordL_mem.1 hm
  have := h.2.1 a k (by omega) hk h2
  omega
theorem SortedW.nodup {v : Nat → Int} {n : Nat} {X : Nat → Nat} (h : SortedW v n X) : ∀ k, k ≤ n → (ordL X k).Nodup
  | 0, _ => by simp [ordL]
  | k + 1, hk => by
    rw [ordL_succ, List.nodup_append]
    refine ⟨h.nodup k (by omega), by simp, fun a ha b hb => ?_⟩
    simp at hb
    subst hb
    exact fun e => h.notin (show k < n by omega) (e ▸ ha)
theorem SortedW.onto {v : Nat → Int} {n : Nat} {X : Nat → Nat} (h : SortedW v n X) {i : Nat} (hi : i < n) : ∃ k, k < n ∧ X k = i := by
  apply Classical.byContradiction
  intro hno
  have hnm : i ∉ ordL X n := fun hm => hno (ordL_mem.1 hm)
  have h1 := cnt_list (fun _ => true) n (ordL X n) (h.nodup n (Nat.le_refl _)) (fun a ha => by
    obtain ⟨k, k1, k2⟩ := ordL_mem.1 ha
    have := h.1 k k1
    omega)
  have h2 : (ordL X n).countP (fun _ => true) = n := by rw [List.countP_true, ordL_len]
  have h3 := cntN_put (f := fun j => true && decide (j ∈ ordL X n)) (g := fun j => (decide (j ∈ ordL X n)) || j == i) hi (fun j _ hne => by
    have hb : (j == i) = false := by simpa using hne
    simp [hb]) (by simp [hnm]) (by simp)
  have h4 := cntN_bd (fun j => (decide (j ∈ ordL X n)) || j == i) n
  omega
theorem SortedW.perm {v : Nat → Int} {n : Nat} {X : Nat → Nat} (h : SortedW v n X) : (ordL X n).Perm (List.range n) := by
  refine (List.perm_ext_iff_of_nodup (h.nodup n (Nat.le_refl _)) List.nodup_range).2 fun i => ?_
  rw [ordL_mem, List.mem_range]
  constructor
  · rintro ⟨k, k1, rfl⟩; exact h.1 k k1
  · exact h.onto
theorem bef_pairs {v : Nat → Int} {n : Nat} {X : Nat → Nat} (h : SortedW v n X) : (ordL X n).Pairwise (bef v) := by
  rw [List.pairwise_iff_getElem]
  intro i j hi hj hij
  rw [ordL_len] at hi hj
  simp [ordL]
  exact h.2.2 i j hij hj
theorem SortedW.unique {v : Nat → Int} {n : Nat} {X Y : Nat → Nat} (h : SortedW v n X) (k : SortedW v n Y) : ordL X n = ordL Y n :=
  List.Perm.eq_of_pairwise (le := bef v) (fun a b _ _ h1 h2 => by unfold bef at h1 h2; omega) (bef_pairs h) (bef_pairs k) (h.perm.trans k.perm.symm)

/-- The numbers of a set. -/
def setL (G : Nat → Bool) (n : Nat) : List Nat := (List.range n).filter G
theorem setL_succ (G : Nat → Bool) (n : Nat) : setL G (n + 1) = setL G n ++ (if G n = true then [n] else []) := by
  unfold setL
  rw [List.range_succ, List.filter_append]
  congr 1
  by_cases c : G n = true
  · rw [if_pos c]; simp [c]
  · rw [if_neg c]; simp [c]
theorem setL_sorted (G : Nat → Bool) (n : Nat) : (setL G n).Pairwise (· < ·) := List.Pairwise.filter _ List.pairwise_lt_range
theorem numsI_sorted {T : List Nat} {G : Nat → Bool} {n : Nat} (h : T.Perm (setL G n)) : (numsI T).mergeSort (fun x y => decide (x ≤ y)) = numsI (setL G n) := by
  refine List.Perm.eq_of_pairwise (le := fun a b : Int => decide (a ≤ b) = true) (fun a b _ _ h1 h2 => by simp only [decide_eq_true_eq] at h1 h2; omega)
    (List.pairwise_mergeSort (fun a b c h1 h2 => by simp only [decide_eq_true_eq] at h1 h2 ⊢; omega) (fun a b => by simp only [Bool.or_eq_true, decide_eq_true_eq]; omega) _) ?_ ((List.mergeSort_perm _ _).trans (h.map _))
  unfold numsI
  rw [List.pairwise_map]
  exact (setL_sorted G n).imp fun {a b} h => by simp only [decide_eq_true_eq]; exact Int.ofNat_le.2 (Nat.le_of_lt h)

/-- The worth of a load. -/
def wOf (l : List Ld) (i : Nat) : Int := (l[i]?.map (fun x : Ld => x.2.2.2)).getD 0
theorem wOf_get {l : List Ld} {i : Nat} {x : Ld} (h : l[i]? = some x) : wOf l i = x.2.2.2 := by unfold wOf; rw [h]; rfl
def worthL (v : Nat → Int) (T : List Nat) : Int := (T.map v).sum
theorem worthL_snoc (v : Nat → Int) (T : List Nat) (x : Nat) : worthL v (T ++ [x]) = worthL v T + v x := by simp [worthL, List.sum_append]
theorem worthL_perm {v : Nat → Int} {T U : List Nat} (h : T.Perm U) : worthL v T = worthL v U := by
  unfold worthL
  induction h with
  | nil => rfl
  | cons x _ ih => simp [ih]
  | swap x y l => simp; omega
  | trans _ _ h1 h2 => exact h1.trans h2
theorem worthL_bd {v : Nat → Int} (hv : ∀ i, 0 ≤ v i ∧ v i ≤ 1000000) : ∀ T : List Nat, 0 ≤ worthL v T ∧ worthL v T ≤ T.length * 1000000
  | [] => by simp [worthL]
  | x :: T => by
    have := worthL_bd hv T
    have := hv x
    have e : worthL v (x :: T) = v x + worthL v T := by simp [worthL]
    rw [e, List.length_cons]
    omega
theorem filt_perm {v : Nat → Int} {n : Nat} {X : Nat → Nat} (h : SortedW v n X) (G : Nat → Bool) : ((ordL X n).filter G).Perm (setL G n) := h.perm.filter G

/-- What the best set is. -/
def BestOK (l : List Ld) (K : Nat) (G : Nat → Bool) : Prop := ∃ X, SortedW (wOf l) l.length X ∧ (shOf l K).Greedy (ordL X l.length) G
theorem BestOK.unique {l : List Ld} {K : Nat} {G H : Nat → Bool} (a : BestOK l K G) (b : BestOK l K H) : G = H := by
  obtain ⟨X, h1, h2⟩ := a
  obtain ⟨Y, k1, k2⟩ := b
  rw [h1.unique k1] at h2
  exact h2.unique k2
end Go.Proofs.Ytkofnhimgegcnaa

namespace Go.Proofs.Ytkofnhimgegcnaa
open Go Go.RowKit Go.Sort Go.Maps

theorem filt_yes {L : List Nat} {S : Nat → Bool} {x : Nat} (hx : x ∉ L) : (L ++ [x]).filter (putS S x) = L.filter S ++ [x] := by
  rw [List.filter_append]
  congr 1
  · refine List.filter_congr fun a ha => ?_
    have : a ≠ x := fun e => hx (e ▸ ha)
    have hb : (a == x) = false := by simpa using this
    simp [putS, hb]
  · simp [putS]
theorem filt_no {L : List Nat} {S : Nat → Bool} {x : Nat} (hx : S x = false) : (L ++ [x]).filter S = L.filter S := by
  rw [List.filter_append]
  simp [hx]
theorem add_yes2 {q : Sh} {S : Nat → Bool} {bm n base f : Nat} {args : Array Value} {w : World} {F0 : Int → Value} (h : Calls Try.prog f args w (AddGot q S bm n base F0 w)) (hf : q.Fit S) : Calls Try.prog f args w fun e w' =>
    ∃ (t : Nat → Nat) (C : Nat → List Nat) (F : Int → Value), e = .returned (.bool true) ∧ q.Full S t ∧ Rep q S t C ∧ CrewsAt w' bm (n + 1) base C F ∧ Touch (fun k => k = bm ∨ CrewIn F0 k) w w' ∧ ∀ k, CrewIn F k → CrewIn F0 k ∨ w.heap.size ≤ k :=
  h.mono fun e w' hg => by
    rcases hg with hg | ⟨_, ho, _⟩
    · exact hg
    · exact absurd hf ho.none
theorem CrewsAt.grown {w W : World} {bm n base : Nat} {C : Nat → List Nat} {F : Int → Value} (h : CrewsAt w bm n base C F) {row : Option Nat} (hg : w.grownBy W row) (hr : ∀ r, row = some r → ¬ CrewIn F r ∧ r ≠ bm) : CrewsAt W bm n base C F := by
  refine ⟨h.map.same (hg.block bm h.map.lt (fun e => (hr bm e.symm).2 rfl)), h.low, h.empty, fun k hk => ?_, h.apart⟩
  obtain ⟨g, c, e1, e2, e3⟩ := h.row k hk
  exact ⟨g, c, e1, e2, e3.same (hg.block g e3.lt (fun e => (hr g e.symm).1 ⟨_, _, _, e1⟩))⟩
theorem lstX_set (k m : Nat) : (lstX (fun a => a) k ++ List.replicate (m + 1) 0).set k (k : Int) = lstX (fun a => a) (k + 1) ++ List.replicate m 0 := by
  rw [List.set_append_right _ _ (by rw [lstX_len]; omega), lstX_len, Nat.sub_self, List.replicate_succ, List.set_cons_zero]
  simp [lstX, List.range_succ]
theorem worth_at {l : List Ld} (hok : ∀ x ∈ l, okB x = true) (i : Nat) : 0 ≤ wOf l i ∧ wOf l i ≤ 1000000 := by
  by_cases h : i < l.length
  · obtain ⟨x, hx⟩ : ∃ x, l[i]? = some x := ⟨_, List.getElem?_eq_getElem h⟩
    rw [wOf_get hx]
    have := okB_iff.1 (hok x (List.mem_of_getElem? hx))
    omega
  · unfold wOf
    rw [List.getElem?_eq_none (by omega)]
    simp

set_option maxRecDepth 100000 in
set_option maxHeartbeats 1000000 in
theorem Best_any (p : Option Addr) (cl K : Nat) (l : List Ld) (w : World) (hL : LoadsAt w p l) (hl : l.length ≤ 20) (hok : ∀ x ∈ l, okB x = true) (hsh : l.any longB = false) (hK : 1 ≤ K ∧ K ≤ 64) :
    Calls Try.prog 30 #[.slice p l.length cl, .int .i64 K] w fun e w' => ∃ (G : Nat → Bool) (c : Nat) (q : Option Addr), BestOK l K G ∧ e = .returned (.tuple #[.slice q (setL G l.length).length c, .int .i64 (worthL (wOf l) (setL G l.length)), .int .i64 0]) ∧ NumsAt w' q (setL G l.length).length (fun i => (((setL G l.length)[i]?.getD 0 : Nat) : Int)) ∧ Adds w w' := by
  have hck := fun W (hW : Adds w W) => checkShort_any p cl l K W (by omega) (hL.later hW) hok (by omega) false hsh
  have hadd := fun (bm n base z : Nat) (W : World) (hW : Adds w W) (hz : z < l.length) (W0 : Nat → Bool) (t0 : Nat → Nat) (C0 : Nat → List Nat) (F0 : Int → Value) (hF : (shOf l K).Full W0 t0) (hR : Rep (shOf l K) W0 t0 C0) (ho : W0 z = false) (hC : CrewsAt W bm n base C0 F0) (hb : base ≤ W.heap.size) (hn : n ≤ 1000) =>
    add_rota p cl bm n base z K l W (hL.later hW) (by omega) hok hK.1 (by omega) hz hF hR ho hC hb hn
  have hwo : ∀ (W : World), Adds w W → ∀ i, i < l.length → ∃ g off, p = some ⟨g, off, none⟩ ∧ g < w.heap.size ∧ W.cell? ⟨g, off + i * 4 + 3, none⟩ = some (.int .i64 (wOf l i)) := fun W hW i hi => by
    obtain ⟨y, hy⟩ : ∃ y, l[i]? = some y := ⟨_, List.getElem?_eq_getElem hi⟩
    obtain ⟨g, off, e, c0, -, -, c3⟩ := hL i y hy
    exact ⟨g, off, e, cell_lt c0, by rw [wOf_get hy]; exact keep_cell hW c3⟩
  have hwb := worth_at hok
  obtain ⟨v, hv⟩ : ∃ v, v = wOf l := ⟨_, rfl⟩
  have hbest : ∀ X G, SortedW v l.length X → (shOf l K).Greedy (ordL X l.length) G → BestOK l K G := fun X G h1 h2 => ⟨X, by rw [← hv]; exact h1, h2⟩
  rw [← hv] at hwo hwb ⊢
  obtain ⟨q, hq⟩ : ∃ q, q = shOf l K := ⟨_, rfl⟩
  have hqn : q.n = l.length := by rw [hq]; rfl
  have hlt : ∀ i, i < q.n → q.r i < q.d i := by rw [hq]; exact shOf_lt (fun x hx => okB_okN (hok x hx))
  simp only [← hq] at hadd hbest ⊢
  obtain ⟨N, hN⟩ : ∃ N, N = l.length := ⟨_, rfl⟩
  rw [← hN] at hl hqn ⊢
  simp only [← hN] at hadd hck hwo hbest
  have HCK := Lib.hid hck
  have HADD := Lib.hid hadd
  have HWO := Lib.hid hwo
  have HWB := Lib.hid hwb
  have HBEST := Lib.hid hbest
  have HQN := Lib.hid hqn
  have HLT := Lib.hid hlt
  have hmm := @run_makeMap Try.prog
  have hmf : ∀ (fn : Fn) (first cap : Array Value) (w : World), (Instr.makeFunc fn first cap).run Try.prog w = .ok (.func fn first cap) w := fun _ _ _ _ => rfl
  obtain ⟨j0, hj, hj0, hj1, hj2⟩ := info_parts info3
  have HJ := Lib.hid hj
  have HJ0 := Lib.hid hj0
  have HJ1 := Lib.hid hj1
  have HJ2 := Lib.hid hj2
  obtain ⟨hK1, hK2⟩ := hK
  clear hck hadd hwo hwb hbest hqn hlt hN hq hv hsh hL hok hj hj0 hj1 hj2
  go_enter Try.func30, Try.ntmps30
  go_upto_region 1 with fail
  obtain ⟨cb, hcb⟩ : ∃ b, b = w.heap.size := ⟨_, rfl⟩
  obtain ⟨W1, hW1⟩ : ∃ V, V = w.alloc (.cells #[.slice p N cl] 30) := ⟨_, rfl⟩
  try rw [← hW1, ← hcb]
  have HC1 : Hid (Box W1 cb #[.slice p N cl] 30) := Lib.hid (by rw [hW1, hcb]; exact Box.new _ _ _)
  have HA1 : Hid (Adds w W1) := Lib.hid (by rw [hW1]; exact (Adds.refl _).alloc _)
  have k0 : W1.cell? ⟨cb, 0, none⟩ = some (.slice p N cl) := HC1.out.cell 0
  have hcw : w.heap.size ≤ cb := by omega
  clear hW1 hcb
  go_upto_region 4 with (go_at_call 65; refine (HCK.out _ HA1.out).mono ?_; rintro e w1 ⟨rfl, hb1⟩; have HB1 := Lib.hid hb1; clear hb1)
  have k1 : w1.cell? ⟨cb, 0, none⟩ = some (.slice p N cl) := keep_cell HB1.out k0
  have HC2 := Lib.hid (HC1.out.later HB1.out)
  have HA2 := Lib.hid (HA1.out.trans HB1.out)
  clear k0 HC1 HA1 HB1
  go_upto_region 6 with (first
    | (refine wpList_make_full _ rfl _ _ 35 rfl w1.heap.size 3 j0 (.int .i64 0) 1 Try.underlying35 HJ.out HJ0.out HJ1.out .i64 .i64 (N : Int) (N : Int) N rfl rfl rfl rfl (by rw [HJ2.out]; omega) (by unfold maxLen; omega) (Nat.le_refl _) ?_; intro W3 ho1 hg1; have HO1 := Lib.hid ho1; have HG1 := Lib.hid hg1; clear ho1 hg1)
    | go_in)
  obtain ⟨go, hgo⟩ : ∃ g, g = w1.heap.size := ⟨_, rfl⟩
  rw [← hgo] at HO1 ⊢
  have hrow1 : RowI 3 .i64 W3 go N (lstX (fun a => a) 0 ++ List.replicate (N - 0) 0) := by
    obtain ⟨_, hr⟩ := own_rowI (made_row HO1.out)
    rcases hr with ⟨hr, _⟩ | ⟨g1, c1, er, _, hrow⟩
    · cases hr
    · rw [List.length_replicate] at er
      simp only [Value.slice.injEq, Option.some.injEq, Addr.mk.injEq, and_true, true_and] at er
      obtain ⟨rfl, rfl⟩ := er
      simpa [lstX] using hrow
  have hA3 : Adds w1 W3 := Below.grown (Adds.refl _) HG1.out (Nat.le_refl _) (fun j hj => by cases hj)
  have HA3 := Lib.hid (HA2.out.trans hA3)
  have HC3 := Lib.hid (HC2.out.later hA3)
  have HR3 := Lib.hid hrow1
  have hcgo : cb < go := by have := HC2.out.lt; omega
  clear hrow1 hgo HO1 HG1 hA3 k1 HC2 HA2
  go_loopw [24] (fun v24 wr => ∃ k : Nat, k ≤ N ∧ v24 = .int .i64 k ∧ Hid (RowI 3 .i64 wr go N (lstX (fun a => a) k ++ List.replicate (N - k) 0)) ∧ Hid (Box wr cb #[.slice p N cl] 30) ∧ Hid (Adds w wr)) (fun v24 _ => N - (intOf v24).toNat)
  case atStart => exact ⟨0, by omega, rfl, HR3, HC3, HA3⟩
  case round =>
    clear HR3 HC3 HA3
    obtain ⟨k, hk, rfl, HR, HC, HAD⟩ := hrel
    by_cases hkn : k < N
    · have hkn2 : (k : Int) < (N : Int) := by omega
      have hk0 : (0 : Int) ≤ (k : Int) := by omega
      obtain ⟨m, hm⟩ : ∃ m, N - k = m + 1 := ⟨N - k - 1, by omega⟩
      rw [hm] at HR
      have HM := Lib.hid hm
      have kf : wr.frozen? ⟨go, k, none⟩ = false := HR.out.free k
      have kh : wr.cell? ⟨go, k, none⟩ = some (.int .i64 0) := HR.out.cell (by rw [List.getElem?_append_right (by rw [lstX_len]; omega), lstX_len, Nat.sub_self, List.replicate_succ]; rfl)
      clear hm
      go_wp2
      refine ⟨⟨k + 1, by omega, by go_num, Lib.hid ?_, Lib.hid (HC.out.far (by simp; omega) _), Lib.hid (HAD.out.set (p := ⟨go, k, none⟩) (by simp; omega) _)⟩, by simp [intOf]; omega⟩
      have := HR.out.put k (k : Int)
      rw [lstX_set] at this
      rw [show N - (k + 1) = m by have := HM.out; omega]
      exact this
    · have hkk : N = k := by omega
      subst hkk
      have hkq : decide ((N : Int) < (N : Int)) = false := by simp
      have hR0 : RowI 3 .i64 wr go N (lstX (fun a => a) N) := by
        have := HR.out
        rw [Nat.sub_self, List.replicate_zero, List.append_nil] at this
        exact this
      have hso := sort67 go N N cb v wr (by omega) hR0 (fun a b ha hb W hW => by
        obtain ⟨g, off, rfl, hgw, ka⟩ := HWO.out wr HAD.out a ha
        obtain ⟨g', off', e, hgw', kb⟩ := HWO.out wr HAD.out b hb
        simp only [Option.some.injEq, Addr.mk.injEq, and_true] at e
        obtain ⟨rfl, rfl⟩ := e
        exact cmpW_any cb g off N cl a b v W (touch_cell hW (by show ¬ cb = go; omega) (HC.out.cell 0)) ha hb (by omega) (touch_cell hW (by show ¬ g = go; omega) ka) (touch_cell hW (by show ¬ g = go; omega) kb))
      have HSO := Lib.hid hso
      clear hso hR0 HR
      unfold SortW at HSO
      go_upto_region 11 with (go_at_call 67; refine HSO.out.mono ?_; rintro e w4 ⟨rfl, X, h1, h2, h3⟩; have HX := Lib.hid h1; have HRX := Lib.hid h2; have HT4 := Lib.hid h3; clear h1 h2 h3)
      have hA4 : Adds w w4 := Touch.adds HAD.out HT4.out (fun i hi => by omega)
      have hC4 : Box w4 cb #[.slice p N cl] 30 := HC.out.same (HT4.out.same _ HC.out.lt (by show ¬ cb = go; omega))
      have HA4 := Lib.hid hA4
      have HC4 := Lib.hid hC4
      have k0 : w4.cell? ⟨cb, 0, none⟩ = some (.slice p N cl) := hC4.cell 0
      clear hA4 hC4 HC HAD HT4 HSO
      go_upto_region 13 with (first
        | go_in)
      obtain ⟨bm, hbm⟩ : ∃ b, b = w4.heap.size := ⟨_, rfl⟩
      obtain ⟨W5, hW5⟩ : ∃ V, V = (w4.alloc (.map #[] 0)).alloc (.cells #[.slice p N cl, .int .i64 (K : Int), .map (some w4.heap.size)] 114) := ⟨_, rfl⟩
      have hC5 : CrewsAt W5 bm 0 (bm + 2) (fun _ => []) (fun _ => nilV) := by rw [hW5, hbm]; exact CrewsAt.made2 _ _
      have hX5 : Box W5 (bm + 1) #[.slice p N cl, .int .i64 (K : Int), .map (some bm)] 114 := by
        rw [hW5, hbm]
        have := Box.new (w4.alloc (.map #[] 0)) #[.slice p N cl, .int .i64 (K : Int), .map (some w4.heap.size)] 114
        rw [World.size_alloc] at this
        exact this
      have hA45 : Adds w4 W5 := by rw [hW5]; exact ((Adds.refl _).alloc _).alloc _
      have hs5 : W5.heap.size = bm + 2 := by rw [hW5, hbm]; simp
      rw [← hW5, ← hbm]
      have HCR5 := Lib.hid hC5
      have HBX5 := Lib.hid hX5
      have HA5 := Lib.hid (HA4.out.trans hA45)
      have HC5 := Lib.hid (HC4.out.later hA45)
      have HR5 := Lib.hid (HRX.out.later hA45)
      have hbw : w.heap.size ≤ bm := by have := HA4.out.size; omega
      have hgb : go < bm := by have := HRX.out.lt; omega
      have hs5' : bm + 2 ≤ W5.heap.size := by omega
      clear hC5 hX5 hA45 hW5 hbm hs5 hmm k0 HRX HA4 HC4 hmf
      go_loopw [41, 4, 5] (fun v41 v4 v5 wr => ∃ (k m : Nat) (S : Nat → Bool) (T : List Nat) (ps : Option Addr) (cs : Nat) (t : Nat → Nat) (C : Nat → List Nat) (F : Int → Value), k ≤ N ∧ v41 = .int .i64 k ∧ Hid (T = (ordL X k).filter S) ∧ T.length ≤ k ∧ v4 = .slice ps T.length cs ∧ v5 = .int .i64 (worthL v T) ∧ m ≤ k ∧ Hid (q.Greedy (ordL X k) S) ∧ Hid (q.Full S t) ∧ Hid (Rep q S t C) ∧ Hid (CrewsAt wr bm m (bm + 2) C F) ∧ Hid (wr.ownsRow (bm + 2) 3 1 (.slice ps T.length cs) T.length ((numsI T).map (Value.int .i64))) ∧ Hid (∀ r, (Value.slice ps T.length cs).ownBlock = some r → ¬ CrewIn F r) ∧ Hid (Box wr cb #[.slice p N cl] 30) ∧ Hid (RowI 3 .i64 wr go N (lstX X N)) ∧ Hid (Box wr (bm + 1) #[.slice p N cl, .int .i64 (K : Int), .map (some bm)] 114) ∧ Hid (Adds w wr) ∧ bm + 2 ≤ wr.heap.size) (fun v41 _ _ _ => N - (intOf v41).toNat)
      case atStart => exact ⟨0, 0, fun _ => false, [], none, 0, fun _ => 0, fun _ => [], fun _ => nilV, by omega, rfl, Lib.hid rfl, by simp, rfl, rfl, by omega, Lib.hid (Sh.Greedy.none q), Lib.hid (Sh.Full.none q _), Lib.hid (Rep.none q _), HCR5, Lib.hid (World.ownsRow_nil _ _ _ _), Lib.hid (fun r e => by simp [Value.ownBlock] at e), HC5, HR5, HBX5, HA5, hs5'⟩
      case round =>
        clear HCR5 HBX5 HA5 HC5 HR5 hs5'
        obtain ⟨k, m, S, T, ps, cs, t, C, F, hk, rfl, HT, htl, rfl, rfl, hmk, HGR, HFU, HRE, HCR, HSET, HFAR, HC, HR, HBX, HAD, hsz⟩ := hrel
        have hwv := worthL_bd HWB.out T
        obtain ⟨n6, hn6⟩ : ∃ n, n = T.length := ⟨_, rfl⟩
        obtain ⟨sm, hsm⟩ : ∃ y, y = worthL v T := ⟨_, rfl⟩
        rw [← hn6] at htl HSET HFAR hwv ⊢
        rw [← hsm] at hwv ⊢
        have HN6L := Lib.hid hn6
        have HSM := Lib.hid hsm
        clear hn6 hsm
        by_cases hkn : k < N
        · have hkn2 : (k : Int) < (N : Int) := by omega
          have hk0 : (0 : Int) ≤ (k : Int) := by omega
          have kx := HR.out.cell (lstX_get (X := X) hkn)
          have hxn := HX.out.1 k hkn
          have hno := HX.out.notin hkn
          have hos : ordL X (k + 1) = ordL X k ++ [X k] := ordL_succ X k
          obtain ⟨x, hx⟩ : ∃ x, x = X k := ⟨_, rfl⟩
          rw [← hx] at kx hxn hno hos
          have hSx : S x = false := by
            cases e : S x with
            | false => rfl
            | true => exact absurd (HGR.out.inn x e) hno
          have hcl := HADD.out bm m (bm + 2) x wr HAD.out hxn S t C F HFU.out HRE.out hSx HCR.out hsz (by omega)
          have HNO := Lib.hid hno
          have HOS := Lib.hid hos
          have HSX := Lib.hid hSx
          have b0 : wr.cell? ⟨bm + 1, 0, none⟩ = some (.slice p N cl) := HBX.out.cell 0
          have b1 : wr.cell? ⟨bm + 1, 1, none⟩ = some (.int .i64 (K : Int)) := HBX.out.cell 1
          have b2 : wr.cell? ⟨bm + 1, 2, none⟩ = some (.map (some bm)) := HBX.out.cell 2
          have hbl := HBX.out.lt
          have hvx := HWB.out x
          have hx0 : (x : Int) < (N : Int) := by omega
          clear hno hos hSx hx
          rcases q.full_or HLT.out (putS S x) with ⟨t', hf⟩ | hov
          · have hyes := add_yes2 hcl hf.fit
            have HY := Lib.hid hyes
            have HGR2 := Lib.hid (HGR.out.yes HNO.out hf.fit)
            clear hyes hcl hf
            go_upto_region 16 with (go_at_call 66; refine HY.out.mono ?_; rintro e w6 ⟨t6, C6, F6, rfl, h1, h2, h3, h4, h5⟩; have HF6 := Lib.hid h1; have HR6 := Lib.hid h2; have HC6 := Lib.hid h3; have HT6 := Lib.hid h4; have HN6 := Lib.hid h5; clear h1 h2 h3 h4 h5)
            have hcr : ∀ r, CrewIn F r → bm + 2 ≤ r := fun r hr => (HCR.out.block hr).1
            have hC6 : Box w6 cb #[.slice p N cl] 30 := HC.out.same (HT6.out.same _ HC.out.lt (fun e => by rcases e with e | e; omega; have := hcr _ e; omega))
            have hR6 : RowI 3 .i64 w6 go N (lstX X N) := HR.out.same (HT6.out.same _ HR.out.lt (fun e => by rcases e with e | e; omega; have := hcr _ e; omega))
            have hX6 : Box w6 (bm + 1) #[.slice p N cl, .int .i64 (K : Int), .map (some bm)] 114 := HBX.out.same (HT6.out.same _ HBX.out.lt (fun e => by rcases e with e | e; omega; have := hcr _ e; omega))
            have hblk : ∀ r, (Value.slice ps n6 cs).ownBlock = some r → bm + 2 ≤ r ∧ r < wr.heap.size := fun r hr => by
              obtain ⟨z1, cu, z2⟩ := own_block HSET.out hr
              exact ⟨z1, (Array.getElem?_eq_some_iff.1 z2).1⟩
            have hS6 : w6.ownsRow (bm + 2) 3 1 (.slice ps n6 cs) n6 ((numsI T).map (Value.int .i64)) := own_same HSET.out fun r hr => HT6.out.same r (hblk r hr).2 (fun e => by
              rcases e with e | e
              · have := hblk r hr; omega
              · exact HFAR.out r hr e)
            have hF6 : ∀ r, (Value.slice ps n6 cs).ownBlock = some r → ¬ CrewIn F6 r := fun r hr e => by
              rcases HN6.out r e with e | e
              · exact HFAR.out r hr e
              · have := hblk r hr; omega
            have hA6 : Adds w w6 := Touch.adds HAD.out HT6.out (fun i hi => by rcases hi with e | e; omega; have := hcr _ e; omega)
            have hs6 : wr.heap.size ≤ w6.heap.size := HT6.out.size
            have HC6b := Lib.hid hC6
            have HR6b := Lib.hid hR6
            have HX6b := Lib.hid hX6
            have HBLK := Lib.hid hblk
            have HS6 := Lib.hid hS6
            have HFF6 := Lib.hid hF6
            have HA6 := Lib.hid hA6
            clear hcr hC6 hR6 hX6 hblk hS6 hF6 hA6 b0 b1 b2 kx HCR HSET HFAR HC HR HBX HAD HT6 HN6 HFU HRE HY HGR
            go_upto_region 17 with (at_builtin; ((refine wpList_append_lies _ rfl _ _ 35 rfl (bm + 2) 3 j0 (.int .i64 0) 1 8 Try.underlying35 HJ.out HJ0.out HJ1.out HJ2.out rfl (by decide) (.slice ps n6 cs) n6 _ rfl (HS6.out.alloc _) ⟨w6.heap.size, 0, none⟩ 1 1 [.int .i64 x] rfl rfl (World.news_of_block (Box.new w6 _ 3)) (by simp [Value.oneCell']) (by omega) (by unfold maxLen; omega) (by omega) (by simp; omega) (w6.heap.size + 1) (by simp) ?_); intro g7 c7 w7 ho7 hg7 hl7 hs7; have HO7 := Lib.hid ho7; have HG7 := Lib.hid hg7; have HL7 := Lib.hid hl7; clear ho7 hg7 hl7))
            obtain ⟨Wa, hWa⟩ : ∃ V, V = w6.alloc (.cells #[.int .i64 (x : Int)] 3) := ⟨_, rfl⟩
            have hAa : Adds w6 Wa := by rw [hWa]; exact (Adds.refl _).alloc _
            have hsa : Wa.heap.size = w6.heap.size + 1 := by rw [hWa]; simp
            rw [← hWa] at HG7
            have hkeep : ∀ b, b < w6.heap.size → b < bm + 2 → w7.heap[b]? = w6.heap[b]? := fun b h1 h2 => (HG7.out.block b (by omega) (fun e => by have := HBLK.out b e.symm; omega)).trans (hAa.block b h1)
            have hC7 : Box w7 cb #[.slice p N cl] 30 := HC6b.out.same (hkeep _ HC6b.out.lt (by omega))
            have hR7 : RowI 3 .i64 w7 go N (lstX X N) := HR6b.out.same (hkeep _ HR6b.out.lt (by omega))
            have hX7 : Box w7 (bm + 1) #[.slice p N cl, .int .i64 (K : Int), .map (some bm)] 114 := HX6b.out.same (hkeep _ HX6b.out.lt (by omega))
            have hA7 : Adds w w7 := Below.grown (HA6.out.trans hAa) HG7.out (by omega) (fun j hj => by have := HBLK.out j hj; omega)
            have hC7b : CrewsAt w7 bm (m + 1) (bm + 2) C6 F6 := (HC6.out.later hAa).grown HG7.out (fun r hr => ⟨HFF6.out r hr, by have := HBLK.out r hr; omega⟩)
            have hF7 : ∀ r, (Value.slice (some ⟨g7, 0, none⟩) (n6 + 1) c7).ownBlock = some r → ¬ CrewIn F6 r := fun r hr e => by
              have hrg : r = g7 := by simpa [Value.ownBlock] using hr.symm
              subst hrg
              rcases HL7.out with e2 | e2
              · exact HFF6.out _ e2 e
              · have := (HC6.out.block e).2; omega
            have hs7b : bm + 2 ≤ w7.heap.size := by have := HC6b.out.lt; have := hA7.size; have := HG7.out.size; omega
            obtain ⟨g, off, rfl, hgw, kw⟩ := HWO.out w7 hA7 x hxn
            have k0 : w7.cell? ⟨cb, 0, none⟩ = some (.slice (some ⟨g, off, none⟩) N cl) := hC7.cell 0
            have HC7 := Lib.hid hC7
            have HR7 := Lib.hid hR7
            have HX7 := Lib.hid hX7
            have HA7 := Lib.hid hA7
            have HC7b := Lib.hid hC7b
            have HF7 := Lib.hid hF7
            obtain ⟨vx, hvx2⟩ : ∃ y, y = v x := ⟨_, rfl⟩
            rw [← hvx2] at kw hvx
            have HVX := Lib.hid hvx2
            clear hAa hsa hkeep hC7 hR7 hX7 hA7 hC7b hF7 hvx2 hWa
            go_wp2
            have hTl : (T ++ [x]).length = n6 + 1 := by rw [List.length_append, HN6L.out]; rfl
            exact ⟨⟨k + 1, m + 1, putS S x, T ++ [x], some ⟨g7, 0, none⟩, c7, t6, C6, F6, by omega, by go_num, Lib.hid (by rw [HOS.out, filt_yes HNO.out, HT.out]), by omega, by rw [hTl], by rw [worthL_snoc, ← HVX.out, HSM.out], by omega, Lib.hid (by rw [HOS.out]; exact HGR2.out), HF6, HR6, HC7b, Lib.hid (by rw [hTl]; simpa [numsI] using HO7.out), Lib.hid (by rw [hTl]; exact HF7.out), HC7, HR7, HX7, HA7, hs7b⟩, by simp [intOf]; omega⟩
          · have hno := add_no hcl hov
            have HNA := Lib.hid hno
            have HGR2 := Lib.hid (HGR.out.no HNO.out hov.none)
            clear hno hcl hov
            go_wp2_with (go_at_call 66; refine HNA.out.mono ?_; rintro e w6 ⟨rfl, hb6⟩; have HB6 := Lib.hid hb6; clear hb6)
            exact ⟨⟨k + 1, m, S, T, ps, cs, t, C, F, by omega, by go_num, Lib.hid (by rw [HOS.out, filt_no HSX.out]; exact HT.out), by have := HN6L.out; omega, by rw [HN6L.out], by rw [HSM.out], by omega, Lib.hid (by rw [HOS.out]; exact HGR2.out), HFU, HRE, Lib.hid (HCR.out.later HB6.out), Lib.hid (by rw [← HN6L.out]; exact own_later HSET.out HB6.out), Lib.hid (by rw [← HN6L.out]; exact HFAR.out), Lib.hid (HC.out.later HB6.out), Lib.hid (HR.out.later HB6.out), Lib.hid (HBX.out.later HB6.out), Lib.hid (HAD.out.trans HB6.out), by have := HB6.out.size; omega⟩, by simp [intOf]; omega⟩
        · have hkk : N = k := by omega
          subst hkk
          have hgood := HBEST.out X S HX.out HGR.out
          have hperm : T.Perm (setL S N) := by rw [HT.out]; exact filt_perm HX.out S
          have hlen : (setL S N).length = n6 := by rw [← hperm.length_eq, HN6L.out]
          have hws : worthL v (setL S N) = sm := by rw [← worthL_perm hperm, HSM.out]
          have hsorted := numsI_sorted hperm
          have HGOOD := Lib.hid hgood
          have HLEN := Lib.hid hlen
          have HWS := Lib.hid hws
          by_cases h0 : n6 = 0
          · subst h0
            clear hgood hperm hlen hws hsorted
            go_wp2_with (go_at_call 69; refine (sort_nil _ _ _).mono ?_; rintro e w9 ⟨rfl, rfl⟩)
            go_ret3
            exact ⟨S, cs, ps, HGOOD.out, by rw [HLEN.out, HWS.out]; rfl, fun i hi => by rw [HLEN.out] at hi; omega, HAD.out⟩
          · obtain ⟨hnn, hr⟩ := own_rowI HSET.out
            clear hnn
            rcases hr with ⟨hr, e0⟩ | ⟨g9, c9, er, hb9, hrow⟩
            · have e1 := congrArg List.length e0
              rw [numsI_len, ← HN6L.out] at e1
              exact absurd e1 h0
            · rw [numsI_len, ← HN6L.out] at er
              simp only [Value.slice.injEq, true_and] at er
              obtain ⟨rfl, rfl⟩ := er
              have hs69 := sort_any g9 cs (numsI T) wr hrow (by rw [numsI_len, ← HN6L.out]; omega)
              rw [hsorted, numsI_len, ← HN6L.out] at hs69
              have HS69 := Lib.hid hs69
              clear hgood hperm hlen hws hsorted hs69 hrow
              go_wp2_with (go_at_call 69; refine HS69.out.mono ?_; rintro e w9 ⟨rfl, h1, h2⟩; have H1 := Lib.hid h1; have H2 := Lib.hid h2; clear h1 h2)
              go_ret3
              refine ⟨S, cs, some ⟨g9, 0, none⟩, HGOOD.out, by rw [HLEN.out, HWS.out]; rfl, fun i hi => ⟨g9, rfl, H1.out.cell ?_⟩, Touch.adds HAD.out H2.out (fun i hi => by omega)⟩
              have e := List.getElem?_eq_getElem hi
              show (numsI (setL S N))[i]? = some (((setL S N)[i]?.getD 0 : Nat) : Int)
              rw [numsI_get e, e]
              rfl
end Go.Proofs.Ytkofnhimgegcnaa

namespace Go.Proofs.Ytkofnhimgegcnaa
open Go Go.RowKit Go.Sort Go.Maps

/-- A new set, as a block. -/
def blkB (n : Nat) : Obj := .cells (madeCells (Value.bool false).cells (n * 1)) 4
theorem SetI.made (W : World) (n : Nat) : SetI (W.alloc (blkB n)) W.heap.size n (fun _ => false) := by
  refine ⟨_, World.alloc_heap_new W _, fun v hv => ?_⟩
  have e : (madeCells (Value.bool false).cells (n * 1)).toList = List.replicate n (Value.bool false) := by
    rw [Nat.mul_one]
    exact toList_madeCells_one _ _
  rw [← Array.getElem?_toList, e, List.getElem?_replicate, if_pos hv]
theorem run_makeB (n : Nat) (hn : n ≤ 256) (W : World) : (Instr.makeSlice 65 (.int .i64 n) (.int .i64 n)).run Try.prog W = .ok (.slice (some ⟨W.heap.size, 0, none⟩) n n) (W.alloc (blkB n)) := by
  obtain ⟨j0, hj, hj0, hj1, hj2⟩ := info_parts info4
  have hr := run_make (P := Try.prog) W 65 4 j0 (.bool false) Try.underlying65 hj hj0 .i64 .i64 n n (by omega) (Int.le_refl _) (by rw [hj2]; omega) (by omega)
  simp only [Int.toNat_natCast, hj1] at hr
  exact hr

/-- The first loads of the order, chosen one by one. -/
structure PickW (v : Nat → Int) (N k : Nat) (X : Nat → Nat) : Prop where
  inn : ∀ a, a < k → X a < N
  inj : ∀ a b, a < k → b < k → X a = X b → a = b
  ord : ∀ a b, a < b → b < k → bef v (X a) (X b)
  out : ∀ i, i < N → i ∉ ordL X k → ∀ a, a < k → bef v (X a) i
theorem ordL_congr {X Y : Nat → Nat} {k : Nat} (h : ∀ a, a < k → X a = Y a) : ordL X k = ordL Y k := by
  unfold ordL
  exact List.map_congr_left fun a ha => h a (List.mem_range.1 ha)
theorem PickW.start (v : Nat → Int) (N : Nat) (X : Nat → Nat) : PickW v N 0 X := ⟨fun a h => by omega, fun a b h => by omega, fun a b _ h => by omega, fun i _ _ a h => by omega⟩
theorem PickW.done {v : Nat → Int} {N : Nat} {X : Nat → Nat} (h : PickW v N N X) : SortedW v N X := ⟨h.inn, h.inj, h.ord⟩
theorem PickW.nodup {v : Nat → Int} {N k : Nat} {X : Nat → Nat} (h : PickW v N k X) : ∀ m, m ≤ k → (ordL X m).Nodup
  | 0, _ => by simp [ordL]
  | m + 1, hm => by
    rw [ordL_succ, List.nodup_append]
    refine ⟨h.nodup m (by omega), by simp, fun a ha b hb => ?_⟩
    simp at hb
    subst hb
    intro e
    obtain ⟨c, c1, c2⟩ := ordL_mem.1 ha
    have := h.inj c m (by omega) (by omega) (c2.trans e)
    omega
theorem PickW.some {v : Nat → Int} {N k : Nat} {X : Nat → Nat} (h : PickW v N k X) (hk : k < N) : ∃ i, i < N ∧ i ∉ ordL X k := by
  apply Classical.byContradiction
  intro hno
  have h1 := cnt_list (fun _ => true) N (ordL X k) (h.nodup k (Nat.le_refl _)) (fun a ha => by
    obtain ⟨c, c1, c2⟩ := ordL_mem.1 ha
    have := h.inn c c1
    omega)
  have h2 : (ordL X k).countP (fun _ => true) = k := by rw [List.countP_true, ordL_len]
  have h3 : cntN N (fun i => true && decide (i ∈ ordL X k)) = N := by
    have : cntN N (fun i => true && decide (i ∈ ordL X k)) = cntN N (fun _ => true) := cntN_congr fun i hi => by
      have : i ∈ ordL X k := Classical.byContradiction fun hn => hno ⟨i, hi, hn⟩
      simp [this]
    rw [this]
    clear this h1 h2 hno h hk
    induction N with
    | zero => rfl
    | succ n ih => rw [cntN, ih]; simp
  omega
theorem PickW.next {v : Nat → Int} {N k f : Nat} {X : Nat → Nat} (h : PickW v N k X) (hf : f < N) (hn : f ∉ ordL X k) (hb : ∀ i, i < N → i ∉ ordL X k → i ≠ f → bef v f i) : PickW v N (k + 1) (setT X k f) ∧ ordL (setT X k f) (k + 1) = ordL X k ++ [f] := by
  have e0 : ∀ a, a < k → setT X k f a = X a := fun a ha => by unfold setT; rw [if_neg (by omega)]
  have ek : setT X k f k = f := by unfold setT; rw [if_pos rfl]
  have eo : ordL (setT X k f) (k + 1) = ordL X k ++ [f] := by rw [ordL_succ, ordL_congr e0, ek]
  have hfa : ∀ a, a < k → X a ≠ f := fun a ha e => hn (ordL_mem.2 ⟨a, ha, e⟩)
  refine ⟨⟨fun a ha => ?_, fun a b ha hb' e => ?_, fun a b hab hb' => ?_, fun i hi hni a ha => ?_⟩, eo⟩
  · by_cases c : a = k
    · rw [c, ek]; exact hf
    · rw [e0 a (by omega)]; exact h.inn a (by omega)
  · by_cases c : a = k
    · by_cases d : b = k
      · omega
      · rw [c, ek, e0 b (by omega)] at e
        exact absurd e.symm (hfa b (by omega))
    · by_cases d : b = k
      · rw [d, ek, e0 a (by omega)] at e
        exact absurd e (hfa a (by omega))
      · rw [e0 a (by omega), e0 b (by omega)] at e
        exact h.inj a b (by omega) (by omega) e
  · rw [e0 a (by omega)]
    by_cases d : b = k
    · rw [d, ek]; exact h.out f hf hn a (by omega)
    · rw [e0 b (by omega)]; exact h.ord a b hab (by omega)
  · rw [eo] at hni
    have hn1 : i ∉ ordL X k := fun m => hni (List.mem_append_left _ m)
    have hn2 : i ≠ f := fun m => hni (by rw [m]; simp)
    by_cases c : a = k
    · rw [c, ek]; exact hb i hi hn1 hn2
    · rw [e0 a (by omega)]; exact h.out i hi hn1 a (by omega)

/-- The first of the greatest worth of those left, of the first i. -/
def FirstOf (v : Nat → Int) (L : List Nat) (i : Nat) (x : Int) : Prop :=
  (x = -1 ∧ ∀ j, j < i → j ∈ L) ∨ ∃ f : Nat, x = f ∧ f < i ∧ f ∉ L ∧ ∀ j, j < i → j ∉ L → j ≠ f → bef v f j
theorem FirstOf.keep {v : Nat → Int} {L : List Nat} {i : Nat} {x : Int} (h : FirstOf v L i x) (hk : i ∈ L ∨ ∃ f : Nat, x = f ∧ v i ≤ v f) : FirstOf v L (i + 1) x := by
  rcases h with ⟨rfl, h⟩ | ⟨f, rfl, h1, h2, h3⟩
  · refine .inl ⟨rfl, fun j hj => ?_⟩
    by_cases e : j = i
    · subst e
      rcases hk with hk | ⟨f, hf, _⟩
      · exact hk
      · omega
    · exact h j (by omega)
  · refine .inr ⟨f, rfl, by omega, h2, fun j hj hn hne => ?_⟩
    by_cases e : j = i
    · subst e
      rcases hk with hk | ⟨f', hf, hv⟩
      · exact absurd hk hn
      · have : f = f' := by omega
        subst this
        unfold bef
        omega
    · exact h3 j (by omega) hn hne
theorem FirstOf.turn {v : Nat → Int} {L : List Nat} {i : Nat} {x : Int} (h : FirstOf v L i x) (hn : i ∉ L) (hk : x = -1 ∨ ∃ f : Nat, x = f ∧ v f < v i) : FirstOf v L (i + 1) i := by
  refine .inr ⟨i, rfl, by omega, hn, fun j hj hnj hne => ?_⟩
  rcases h with ⟨rfl, h⟩ | ⟨f, rfl, h1, h2, h3⟩
  · exact absurd (h j (by omega)) hnj
  · rcases hk with hk | ⟨f', hf, hv⟩
    · omega
    · have : f = f' := by omega
      subst this
      have hfi : bef v i f := .inl hv
      by_cases e : j = f
      · rw [e]; exact hfi
      · exact bef_trans hfi (h3 j (by omega) hnj e)

end Go.Proofs.Ytkofnhimgegcnaa

namespace Go.Proofs.Ytkofnhimgegcnaa
open Go Go.RowKit Go.Sort Go.Maps

set_option maxRecDepth 100000 in
set_option maxHeartbeats 1000000 in
theorem RBest_any (p : Option Addr) (cl K : Nat) (l : List Ld) (w : World) (hL : LoadsAt w p l) (hl : l.length ≤ 20) (hok : ∀ x ∈ l, okB x = true) (hK : 1 ≤ K ∧ K ≤ 64) :
    Calls Try.prog 34 #[.slice p l.length cl, .int .i64 K] w fun e w' => ∃ (G : Nat → Bool) (c : Nat) (q : Option Addr), BestOK l K G ∧ e = .returned (.tuple #[.slice q (setL G l.length).length c, .int .i64 (worthL (wOf l) (setL G l.length))]) ∧ NumsAt w' q (setL G l.length).length (fun i => (((setL G l.length)[i]?.getD 0 : Nat) : Int)) ∧ Adds w w' := by
  have hwo : ∀ (W : World), Adds w W → ∀ i, i < l.length → ∃ g off, p = some ⟨g, off, none⟩ ∧ g < w.heap.size ∧ W.cell? ⟨g, off + i * 4 + 3, none⟩ = some (.int .i64 (wOf l i)) := fun W hW i hi => by
    obtain ⟨y, hy⟩ : ∃ y, l[i]? = some y := ⟨_, List.getElem?_eq_getElem hi⟩
    obtain ⟨g, off, e, c0, -, -, c3⟩ := hL i y hy
    exact ⟨g, off, e, cell_lt c0, by rw [wOf_get hy]; exact keep_cell hW c3⟩
  have hwb := worth_at hok
  have hey := fun (ps : Option Addr) (cs : Nat) (S : Nat → Bool) (t : Nat → Nat) (W : World) (hW : Adds w W) (hS : BoolsAt W ps l.length S) (hF : (shOf l K).Full S t) => REarly_yes p ps cl cs K l S W t (hL.later hW) hS (by omega) hok hK hF
  have hen := fun (ps : Option Addr) (cs : Nat) (S : Nat → Bool) (W : World) (hW : Adds w W) (hS : BoolsAt W ps l.length S) (hO : (shOf l K).Over S) => REarly_no p ps cl cs K l S W (hL.later hW) hS (by omega) hok hK hO
  obtain ⟨v, hv⟩ : ∃ v, v = wOf l := ⟨_, rfl⟩
  have hbest : ∀ X G, SortedW v l.length X → (shOf l K).Greedy (ordL X l.length) G → BestOK l K G := fun X G h1 h2 => ⟨X, by rw [← hv]; exact h1, h2⟩
  rw [← hv] at hwo hwb ⊢
  obtain ⟨q, hq⟩ : ∃ q, q = shOf l K := ⟨_, rfl⟩
  have hlt : ∀ i, i < q.n → q.r i < q.d i := by rw [hq]; exact shOf_lt (fun x hx => okB_okN (hok x hx))
  simp only [← hq] at hey hen hbest ⊢
  obtain ⟨N, hN⟩ : ∃ N, N = l.length := ⟨_, rfl⟩
  rw [← hN] at hl ⊢
  simp only [← hN] at hwo hbest hey hen
  have HWO := Lib.hid hwo
  have HWB := Lib.hid hwb
  have HBEST := Lib.hid hbest
  have HEY := Lib.hid hey
  have HEN := Lib.hid hen
  have HLT := Lib.hid hlt
  obtain ⟨j0, hj, hj0, hj1, hj2⟩ := info_parts info3
  have HJ := Lib.hid hj
  have HJ0 := Lib.hid hj0
  have HJ1 := Lib.hid hj1
  have HJ2 := Lib.hid hj2
  obtain ⟨hK1, hK2⟩ := hK
  clear hwo hwb hbest hey hen hlt hN hq hv hL hok hj hj0 hj1 hj2
  go_enter Try.func34, Try.ntmps34
  go_upto_region 1 with fail
  have hmk := run_makeB N (by omega)
  go_region
  clear hmk
  all_goals
    obtain ⟨W0, hW0⟩ : ∃ V, V = ((w.alloc (blkB N)).alloc (blkB N)).drew := ⟨_, rfl⟩
    have hA0 : Adds w W0 := by rw [hW0]; exact (((Adds.refl _).alloc _).alloc _).drew
    obtain ⟨b0, hb0⟩ : ∃ a, a = w.heap.size := ⟨_, rfl⟩
    obtain ⟨b1, hb1⟩ : ∃ a, a = w.heap.size + 1 := ⟨_, rfl⟩
    have hS0 : SetI W0 b0 N (fun _ => false) := by rw [hW0, hb0]; exact ((SetI.made w N).later ((Adds.refl _).alloc _)).later (Adds.refl _).drew
    have hS1 : SetI W0 b1 N (fun _ => false) := by
      rw [hW0, hb1]
      have := SetI.made (w.alloc (blkB N)) N
      rw [World.size_alloc] at this
      exact this.later (Adds.refl _).drew
    rw [← hW0, ← hb1, ← hb0]
    have hwb0 : w.heap.size ≤ b0 := by omega
    have hwb1 : w.heap.size ≤ b1 := by omega
    have hb01 : b0 ≠ b1 := by omega
    have hb10 : b1 ≠ b0 := by omega
    clear hW0 hb0 hb1
  · obtain ⟨bs, bn, e1, e2⟩ : ∃ x y, x = b0 ∧ y = b1 := ⟨_, _, rfl, rfl⟩
    subst e1
    subst e2
    have hS := hS0
    have hN' := hS1
    have hws := hwb0
    have hwn := hwb1
    have hbb := hb10
    clear hb01 hb10 hS0 hS1 hwb0 hwb1
    have HS0 := Lib.hid hS
    have HN0 := Lib.hid (hN'.congr (T := fun i => decide (i ∈ ordL (fun a => a) 0)) (fun i _ => by simp [ordL]))
    have HA0 := Lib.hid hA0
    clear hS hN' hA0
    go_upto_region 3 with fail
    go_loopw [8] (fun v8 wr => ∃ (k : Nat) (X : Nat → Nat) (S : Nat → Bool), k ≤ N ∧ v8 = .int .i64 k ∧ Hid (PickW v N k X) ∧ Hid (q.Greedy (ordL X k) S) ∧ Hid (SetI wr bs N S) ∧ Hid (SetI wr bn N (fun i => decide (i ∈ ordL X k))) ∧ Hid (Adds w wr)) (fun v8 _ => N - (intOf v8).toNat)
    case atStart => exact ⟨0, fun a => a, fun _ => false, by omega, rfl, Lib.hid (PickW.start v N _), Lib.hid (Sh.Greedy.none q), HS0, HN0, HA0⟩
    case round => as_aux_lemma =>
      clear HS0 HN0 HA0
      obtain ⟨k, X, S, hk, rfl, HP, HG, HS, HU, HAD⟩ := hrel
      by_cases hkn : k < N
      · have hkn2 : (k : Int) < (N : Int) := by omega
        go_upto_region 7 with fail
        rename World => Wo
        go_loopw [9, 10] (fun v9 v10 wr => ∃ (i : Nat) (x : Int), i ≤ N ∧ v10 = .int .i64 i ∧ v9 = .int .i64 x ∧ -1 ≤ x ∧ x < (N : Int) ∧ Hid (FirstOf v (ordL X k) i x) ∧ Hid (∃ n, wr = Wo.drewN n)) (fun _ v10 _ => N - (intOf v10).toNat)
        case atStart => exact ⟨0, -1, by omega, rfl, rfl, by omega, by omega, Lib.hid (.inl ⟨rfl, fun j hj => by omega⟩), Lib.hid ⟨0, rfl⟩⟩
        case round => as_aux_lemma =>
          obtain ⟨i, x, hi, rfl, rfl, hx1, hx2, HF, HW⟩ := hrel
          have hadv : Adds Wo wr := by obtain ⟨n, e⟩ := HW.out; rw [e]; exact (Adds.refl _).drewN n
          have HADV := Lib.hid hadv
          have HWN : Hid (∀ m, ∃ n, wr.drewN m = Wo.drewN n) := Lib.hid (fun m => by obtain ⟨n, e⟩ := HW.out; exact ⟨n + m, by rw [e, World.drewN_drewN]⟩)
          clear hadv
          by_cases hin : i < N
          · have hin2 : (i : Int) < (N : Int) := by omega
            have hi0 : (0 : Int) ≤ (i : Int) := by omega
            have ku := (HU.out.later HADV.out).cell hin
            obtain ⟨g, off, rfl, hgw, ki⟩ := HWO.out wr (HAD.out.trans HADV.out) i hin
            obtain ⟨vi, hvi⟩ : ∃ y, y = v i := ⟨_, rfl⟩
            rw [← hvi] at ki
            have HVI := Lib.hid hvi
            clear hvi
            by_cases hseen : i ∈ ordL X k
            · rw [decide_eq_true hseen] at ku
              have HIN := Lib.hid hseen
              clear hseen
              go_upto_region 9 with fail
              go_quiet (fail)
              go_wp2
              exact ⟨⟨i + 1, x, by omega, by go_num, rfl, hx1, hx2, Lib.hid (HF.out.keep (.inl HIN.out)), Lib.hid (HWN.out _)⟩, by simp [intOf]; omega⟩
            · rw [decide_eq_false hseen] at ku
              have HIN := Lib.hid hseen
              clear hseen
              by_cases hb0 : x < 0
              · have hbq : decide (x < 0) = true := decide_eq_true hb0
                have hbm : x = -1 := by omega
                have HBM := Lib.hid hbm
                clear hbm
                go_upto_region 9 with fail
                go_quiet (fail)
                go_wp2
                exact ⟨⟨i + 1, (i : Int), by omega, by go_num, rfl, by omega, by omega, Lib.hid (HF.out.turn HIN.out (.inl HBM.out)), Lib.hid (HWN.out _)⟩, by simp [intOf]; omega⟩
              · have hbq : decide (x < 0) = false := decide_eq_false hb0
                obtain ⟨f, rfl⟩ : ∃ f : Nat, x = (f : Int) := ⟨x.toNat, by omega⟩
                have hfN : f < N := by omega
                have hf0 : (0 : Int) ≤ (f : Int) := by omega
                obtain ⟨g2, off2, ep2, _, kf⟩ := HWO.out wr (HAD.out.trans HADV.out) f hfN
                simp only [Option.some.injEq, Addr.mk.injEq, and_true] at ep2
                obtain ⟨rfl, rfl⟩ := ep2
                obtain ⟨vf, hvf⟩ : ∃ y, y = v f := ⟨_, rfl⟩
                rw [← hvf] at kf
                have HVF := Lib.hid hvf
                clear hvf
                by_cases hgt : vf < vi
                · have hgq : decide (vf < vi) = true := decide_eq_true hgt
                  go_upto_region 9 with fail
                  go_quiet (fail)
                  go_wp2
                  exact ⟨⟨i + 1, (i : Int), by omega, by go_num, rfl, by omega, by omega, Lib.hid (HF.out.turn HIN.out (.inr ⟨f, rfl, by rw [← HVI.out, ← HVF.out]; exact hgt⟩)), Lib.hid (HWN.out _)⟩, by simp [intOf]; omega⟩
                · have hgq : decide (vf < vi) = false := decide_eq_false hgt
                  go_upto_region 9 with fail
                  go_quiet (fail)
                  go_wp2
                  exact ⟨⟨i + 1, (f : Int), by omega, by go_num, rfl, by omega, by omega, Lib.hid (HF.out.keep (.inr ⟨f, rfl, by rw [← HVI.out, ← HVF.out]; omega⟩)), Lib.hid (HWN.out _)⟩, by simp [intOf]; omega⟩
          · have hii : i = N := by omega
            obtain ⟨f, hxf, hfN, hfn, hfb⟩ : ∃ f : Nat, x = f ∧ f < N ∧ f ∉ ordL X k ∧ ∀ j, j < N → j ∉ ordL X k → j ≠ f → bef v f j := by
              have h := HF.out
              rw [hii] at h
              rcases h with ⟨_, h⟩ | h
              · obtain ⟨j, j1, j2⟩ := HP.out.some hkn
                exact absurd (h j j1) j2
              · exact h
            subst hxf
            have hiq : decide ((i : Int) < (N : Int)) = false := decide_eq_false (by omega)
            have hf0 : (0 : Int) ≤ (f : Int) := by omega
            have hSf : S f = false := by
              cases e : S f with
              | false => rfl
              | true => exact absurd (HG.out.inn f e) hfn
            obtain ⟨hP2, hO2⟩ := HP.out.next hfN hfn hfb
            have hS1 := HS.out.later HADV.out
            have hU1 := HU.out.later HADV.out
            have f1 : wr.frozen? ⟨bn, f, none⟩ = false := hU1.free f
            have c1 := hU1.cell hfN
            obtain ⟨bv, hbv⟩ : ∃ b, b = decide (f ∈ ordL X k) := ⟨_, rfl⟩
            rw [← hbv] at c1
            have hU2 := (hU1.put f true).congr (T := fun j => decide (j ∈ ordL (setT X k f) (k + 1))) (fun j _ => by
              rw [hO2]
              by_cases e : j = f
              · simp [e]
              · simp [e])
            have hS2 := hS1.far (p := ⟨bn, f, none⟩) (fun e => hbb e.symm) (.bool true)
            have f2 : (wr.setCell ⟨bn, f, none⟩ (.bool true)).frozen? ⟨bs, f, none⟩ = false := hS2.free f
            have c2 := hS2.cell hfN
            rw [hSf] at c2
            have HA2 := Lib.hid ((HAD.out.trans HADV.out).set (p := ⟨bn, f, none⟩) hwn (.bool true))
            have HP2 := Lib.hid hP2
            have HO2 := Lib.hid hO2
            have HU2 := Lib.hid hU2
            have HS2 := Lib.hid hS2
            have HSF := Lib.hid hSf
            have HFN := Lib.hid hfn
            clear hP2 hO2 hU2 hS2 hSf hfn hfb hS1 hU1 HS HU HF HW HWN hbv
            go_upto_region 13 with fail
            obtain ⟨W2, hW2⟩ : ∃ V, V = (wr.setCell ⟨bn, f, none⟩ (.bool true)).setCell ⟨bs, f, none⟩ (.bool true) := ⟨_, rfl⟩
            have hA3 : Adds w W2 := by rw [hW2]; exact HA2.out.set (p := ⟨bs, f, none⟩) hws _
            have hS3 : SetI W2 bs N (putS S f) := by
              rw [hW2]
              refine (HS2.out.put f true).congr fun j _ => ?_
              by_cases e : j = f
              · simp [e, putS]
              · have hb : (j == f) = false := by simpa using e
                simp [e, putS, hb]
            have hU3 : SetI W2 bn N (fun j => decide (j ∈ ordL (setT X k f) (k + 1))) := by rw [hW2]; exact HU2.out.far (p := ⟨bs, f, none⟩) hbb _
            rw [← hW2]
            have HA3 := Lib.hid hA3
            have HS3 := Lib.hid hS3
            have HU3 := Lib.hid hU3
            clear hW2 hA3 hS3 hU3 HA2 HS2 HU2 f1 c1 f2 c2 HADV HAD
            rcases q.full_or HLT.out (putS S f) with ⟨t, ht⟩ | ho
            · have hE := HEY.out (some ⟨bs, 0, none⟩) N (putS S f) t W2 HA3.out HS3.out.bools ht
              have HG2 := Lib.hid (HG.out.yes HFN.out ht.fit)
              have HE := Lib.hid hE
              clear hE ht
              go_wp2_with (go_at_call 31; refine HE.out.mono ?_; rintro e w3 ⟨c3, q3, rfl, _, hb3⟩; have HB3 := Lib.hid hb3; clear hb3)
              exact ⟨⟨k + 1, setT X k f, putS S f, by omega, by go_num, HP2, Lib.hid (by rw [HO2.out]; exact HG2.out), Lib.hid (HS3.out.later HB3.out), Lib.hid (HU3.out.later HB3.out), Lib.hid (HA3.out.trans HB3.out)⟩, by simp [intOf]; omega⟩
            · have hE := HEN.out (some ⟨bs, 0, none⟩) N (putS S f) W2 HA3.out HS3.out.bools ho
              have HG2 := Lib.hid (HG.out.no HFN.out ho.none)
              have HE := Lib.hid hE
              clear hE ho
              go_upto_region 15 with (go_at_call 31; refine HE.out.mono ?_; rintro e w3 ⟨rfl, hb3⟩; have HB3 := Lib.hid hb3; clear hb3)
              have hS4 := HS3.out.later HB3.out
              have f4 : w3.frozen? ⟨bs, f, none⟩ = false := hS4.free f
              have c4 := hS4.cell hfN
              have HS4 := Lib.hid hS4
              obtain ⟨bv, hbv⟩ : ∃ b, b = putS S f f := ⟨_, rfl⟩
              rw [← hbv] at c4
              clear hS4 hbv
              go_wp2
              refine ⟨⟨k + 1, setT X k f, S, by omega, by go_num, HP2, Lib.hid (by rw [HO2.out]; exact HG2.out), Lib.hid ((HS4.out.put f false).congr fun j _ => ?_), Lib.hid ((HU3.out.later HB3.out).far (p := ⟨bs, f, none⟩) hbb _), Lib.hid ((HA3.out.trans HB3.out).set (p := ⟨bs, f, none⟩) hws _)⟩, by simp [intOf]; omega⟩
              by_cases e : j = f
              · rw [if_pos e, e, HSF.out]
              · have hb : (j == f) = false := by simpa using e
                rw [if_neg e]
                simp [putS, hb]
      · have hkk : N = k := by omega
        subst hkk
        have hkq : decide ((N : Int) < (N : Int)) = false := by simp
        have hgood := HBEST.out X S HP.out.done HG.out
        have HGOOD := Lib.hid hgood
        clear hgood HP HG HU HEY HEN HBEST
        go_upto_region 19 with fail
        go_loopw [15, 13, 14] (fun v15 v13 v14 wr => ∃ (i : Nat) (ps : Option Addr) (cs n : Nat) (sm : Int), i ≤ N ∧ v15 = .int .i64 i ∧ v13 = .slice ps n cs ∧ v14 = .int .i64 sm ∧ Hid (n = (setL S i).length) ∧ Hid (sm = worthL v (setL S i)) ∧ n ≤ i ∧ 0 ≤ sm ∧ sm ≤ 1000000 * (i : Int) ∧ Hid (wr.ownsRow w.heap.size 3 1 (.slice ps n cs) n ((numsI (setL S i)).map (Value.int .i64))) ∧ Hid (∀ r, (Value.slice ps n cs).ownBlock = some r → r ≠ bs) ∧ Hid (SetI wr bs N S) ∧ Hid (Adds w wr)) (fun v15 _ _ _ => N - (intOf v15).toNat)
        case atStart => exact ⟨0, none, 0, 0, 0, by omega, rfl, rfl, rfl, Lib.hid rfl, Lib.hid rfl, by omega, by omega, by omega, Lib.hid (World.ownsRow_nil _ _ _ _), Lib.hid (fun r e => by simp [Value.ownBlock] at e), HS, HAD⟩
        case round => as_aux_lemma =>
          clear HS HAD
          obtain ⟨i, ps, cs, n, sm, hi, rfl, rfl, rfl, HLN, HSM, hni, hs0, hs1, HO, HFR, HS, HAD⟩ := hrel
          by_cases hin : i < N
          · have hin2 : (i : Int) < (N : Int) := by omega
            have hi0 : (0 : Int) ≤ (i : Int) := by omega
            have kS := HS.out.cell hin
            have hse := setL_succ S i
            cases hSi : S i with
            | false =>
              rw [hSi] at kS hse
              simp only [Bool.false_eq_true, if_false, List.append_nil] at hse
              have HSE := Lib.hid hse
              clear hse hSi
              go_wp2
              exact ⟨⟨i + 1, ps, cs, n, sm, by omega, by go_num, rfl, rfl, Lib.hid (by rw [HSE.out]; exact HLN.out), Lib.hid (by rw [HSE.out]; exact HSM.out), by omega, hs0, by omega, Lib.hid (by rw [HSE.out]; exact HO.out), HFR, HS, HAD⟩, by simp [intOf]; omega⟩
            | true =>
              rw [hSi] at kS hse
              simp only [if_true] at hse
              have HSE := Lib.hid hse
              have hws2 := HAD.out.size
              have hvb := HWB.out i
              clear hse hSi
              go_upto_region 23 with (at_builtin; ((refine wpList_append_lies _ rfl _ _ 35 rfl w.heap.size 3 j0 (.int .i64 0) 1 8 Try.underlying35 HJ.out HJ0.out HJ1.out HJ2.out rfl (by decide) (.slice ps n cs) n _ rfl (HO.out.alloc _) ⟨wr.heap.size, 0, none⟩ 1 1 [.int .i64 i] rfl rfl (World.news_of_block (Box.new wr _ 3)) (by simp [Value.oneCell']) (by omega) (by unfold maxLen; omega) (by omega) (by simp; omega) (wr.heap.size + 1) (by simp) ?_); intro g7 c7 w7 ho7 hg7 hl7 hs7; have HO7 := Lib.hid ho7; have HG7 := Lib.hid hg7; have HL7 := Lib.hid hl7; clear ho7 hg7 hl7))
              have hblk : ∀ r, (Value.slice ps n cs).ownBlock = some r → w.heap.size ≤ r := fun r hr => (own_block HO.out hr).1
              have hA7 : Adds w w7 := Below.grown (HAD.out.alloc _) HG7.out (by simp; omega) hblk
              have hbl := HS.out.lt
              have hS7 : SetI w7 bs N S := by
                obtain ⟨cur, h1, h2⟩ := HS.out
                exact ⟨cur, (HG7.out.block bs (by simp; omega) (fun e => HFR.out bs e.symm rfl)).trans (((Adds.refl wr).alloc (.cells #[.int .i64 (i : Int)] 3)).block bs hbl |>.trans h1), h2⟩
              obtain ⟨g, off, rfl, _, kw⟩ := HWO.out w7 hA7 i hin
              obtain ⟨vi, hvi⟩ : ∃ y, y = v i := ⟨_, rfl⟩
              rw [← hvi] at kw hvb
              have HVI := Lib.hid hvi
              have HA7 := Lib.hid hA7
              have HS7 := Lib.hid hS7
              have hfr7 : ∀ r, (Value.slice (some ⟨g7, 0, none⟩) (n + 1) c7).ownBlock = some r → r ≠ bs := fun r hr e => by
                have hrg : r = g7 := by simpa [Value.ownBlock] using hr.symm
                rcases HL7.out with e2 | e2
                · exact HFR.out g7 e2 (by omega)
                · omega
              have HFR7 := Lib.hid hfr7
              clear hA7 hS7 hvi hfr7 hblk
              go_wp2
              exact ⟨⟨i + 1, some ⟨g7, 0, none⟩, c7, n + 1, sm + vi, by omega, by go_num, rfl, rfl, Lib.hid (by rw [HSE.out, List.length_append, ← HLN.out]; rfl), Lib.hid (by rw [HSE.out, worthL_snoc, ← HSM.out, ← HVI.out]), by omega, by omega, by omega, Lib.hid (by rw [HSE.out]; simpa [numsI] using HO7.out), HFR7, HS7, HA7⟩, by simp [intOf]; omega⟩
          · have hii : N = i := by omega
            subst hii
            go_wp2
            go_ret2
            refine ⟨S, cs, ps, HGOOD.out, by rw [← HLN.out, ← HSM.out]; rfl, ?_, HAD.out⟩
            rw [← HLN.out]
            have := HO.out
            exact nums_own this fun j hj => by
              have hj2 : j < (setL S N).length := by rw [← HLN.out]; exact hj
              rw [numsI_get (List.getElem?_eq_getElem hj2), List.getElem?_eq_getElem hj2]
              rfl
  · obtain ⟨bs, bn, e1, e2⟩ : ∃ x y, x = b1 ∧ y = b0 := ⟨_, _, rfl, rfl⟩
    subst e1
    subst e2
    have hS := hS1
    have hN' := hS0
    have hws := hwb1
    have hwn := hwb0
    have hbb := hb01
    clear hb01 hb10 hS0 hS1 hwb0 hwb1
    have HS0 := Lib.hid hS
    have HN0 := Lib.hid (hN'.congr (T := fun i => decide (i ∈ ordL (fun a => a) 0)) (fun i _ => by simp [ordL]))
    have HA0 := Lib.hid hA0
    clear hS hN' hA0
    go_upto_region 3 with fail
    go_loopw [8] (fun v8 wr => ∃ (k : Nat) (X : Nat → Nat) (S : Nat → Bool), k ≤ N ∧ v8 = .int .i64 k ∧ Hid (PickW v N k X) ∧ Hid (q.Greedy (ordL X k) S) ∧ Hid (SetI wr bs N S) ∧ Hid (SetI wr bn N (fun i => decide (i ∈ ordL X k))) ∧ Hid (Adds w wr)) (fun v8 _ => N - (intOf v8).toNat)
    case atStart => exact ⟨0, fun a => a, fun _ => false, by omega, rfl, Lib.hid (PickW.start v N _), Lib.hid (Sh.Greedy.none q), HS0, HN0, HA0⟩
    case round => as_aux_lemma =>
      clear HS0 HN0 HA0
      obtain ⟨k, X, S, hk, rfl, HP, HG, HS, HU, HAD⟩ := hrel
      by_cases hkn : k < N
      · have hkn2 : (k : Int) < (N : Int) := by omega
        go_upto_region 7 with fail
        rename World => Wo
        go_loopw [9, 10] (fun v9 v10 wr => ∃ (i : Nat) (x : Int), i ≤ N ∧ v10 = .int .i64 i ∧ v9 = .int .i64 x ∧ -1 ≤ x ∧ x < (N : Int) ∧ Hid (FirstOf v (ordL X k) i x) ∧ Hid (∃ n, wr = Wo.drewN n)) (fun _ v10 _ => N - (intOf v10).toNat)
        case atStart => exact ⟨0, -1, by omega, rfl, rfl, by omega, by omega, Lib.hid (.inl ⟨rfl, fun j hj => by omega⟩), Lib.hid ⟨0, rfl⟩⟩
        case round => as_aux_lemma =>
          obtain ⟨i, x, hi, rfl, rfl, hx1, hx2, HF, HW⟩ := hrel
          have hadv : Adds Wo wr := by obtain ⟨n, e⟩ := HW.out; rw [e]; exact (Adds.refl _).drewN n
          have HADV := Lib.hid hadv
          have HWN : Hid (∀ m, ∃ n, wr.drewN m = Wo.drewN n) := Lib.hid (fun m => by obtain ⟨n, e⟩ := HW.out; exact ⟨n + m, by rw [e, World.drewN_drewN]⟩)
          clear hadv
          by_cases hin : i < N
          · have hin2 : (i : Int) < (N : Int) := by omega
            have hi0 : (0 : Int) ≤ (i : Int) := by omega
            have ku := (HU.out.later HADV.out).cell hin
            obtain ⟨g, off, rfl, hgw, ki⟩ := HWO.out wr (HAD.out.trans HADV.out) i hin
            obtain ⟨vi, hvi⟩ : ∃ y, y = v i := ⟨_, rfl⟩
            rw [← hvi] at ki
            have HVI := Lib.hid hvi
            clear hvi
            by_cases hseen : i ∈ ordL X k
            · rw [decide_eq_true hseen] at ku
              have HIN := Lib.hid hseen
              clear hseen
              go_upto_region 9 with fail
              go_quiet (fail)
              go_wp2
              exact ⟨⟨i + 1, x, by omega, by go_num, rfl, hx1, hx2, Lib.hid (HF.out.keep (.inl HIN.out)), Lib.hid (HWN.out _)⟩, by simp [intOf]; omega⟩
            · rw [decide_eq_false hseen] at ku
              have HIN := Lib.hid hseen
              clear hseen
              by_cases hb0 : x < 0
              · have hbq : decide (x < 0) = true := decide_eq_true hb0
                have hbm : x = -1 := by omega
                have HBM := Lib.hid hbm
                clear hbm
                go_upto_region 9 with fail
                go_quiet (fail)
                go_wp2
                exact ⟨⟨i + 1, (i : Int), by omega, by go_num, rfl, by omega, by omega, Lib.hid (HF.out.turn HIN.out (.inl HBM.out)), Lib.hid (HWN.out _)⟩, by simp [intOf]; omega⟩
              · have hbq : decide (x < 0) = false := decide_eq_false hb0
                obtain ⟨f, rfl⟩ : ∃ f : Nat, x = (f : Int) := ⟨x.toNat, by omega⟩
                have hfN : f < N := by omega
                have hf0 : (0 : Int) ≤ (f : Int) := by omega
                obtain ⟨g2, off2, ep2, _, kf⟩ := HWO.out wr (HAD.out.trans HADV.out) f hfN
                simp only [Option.some.injEq, Addr.mk.injEq, and_true] at ep2
                obtain ⟨rfl, rfl⟩ := ep2
                obtain ⟨vf, hvf⟩ : ∃ y, y = v f := ⟨_, rfl⟩
                rw [← hvf] at kf
                have HVF := Lib.hid hvf
                clear hvf
                by_cases hgt : vf < vi
                · have hgq : decide (vf < vi) = true := decide_eq_true hgt
                  go_upto_region 9 with fail
                  go_quiet (fail)
                  go_wp2
                  exact ⟨⟨i + 1, (i : Int), by omega, by go_num, rfl, by omega, by omega, Lib.hid (HF.out.turn HIN.out (.inr ⟨f, rfl, by rw [← HVI.out, ← HVF.out]; exact hgt⟩)), Lib.hid (HWN.out _)⟩, by simp [intOf]; omega⟩
                · have hgq : decide (vf < vi) = false := decide_eq_false hgt
                  go_upto_region 9 with fail
                  go_quiet (fail)
                  go_wp2
                  exact ⟨⟨i + 1, (f : Int), by omega, by go_num, rfl, by omega, by omega, Lib.hid (HF.out.keep (.inr ⟨f, rfl, by rw [← HVI.out, ← HVF.out]; omega⟩)), Lib.hid (HWN.out _)⟩, by simp [intOf]; omega⟩
          · have hii : i = N := by omega
            obtain ⟨f, hxf, hfN, hfn, hfb⟩ : ∃ f : Nat, x = f ∧ f < N ∧ f ∉ ordL X k ∧ ∀ j, j < N → j ∉ ordL X k → j ≠ f → bef v f j := by
              have h := HF.out
              rw [hii] at h
              rcases h with ⟨_, h⟩ | h
              · obtain ⟨j, j1, j2⟩ := HP.out.some hkn
                exact absurd (h j j1) j2
              · exact h
            subst hxf
            have hiq : decide ((i : Int) < (N : Int)) = false := decide_eq_false (by omega)
            have hf0 : (0 : Int) ≤ (f : Int) := by omega
            have hSf : S f = false := by
              cases e : S f with
              | false => rfl
              | true => exact absurd (HG.out.inn f e) hfn
            obtain ⟨hP2, hO2⟩ := HP.out.next hfN hfn hfb
            have hS1 := HS.out.later HADV.out
            have hU1 := HU.out.later HADV.out
            have f1 : wr.frozen? ⟨bn, f, none⟩ = false := hU1.free f
            have c1 := hU1.cell hfN
            obtain ⟨bv, hbv⟩ : ∃ b, b = decide (f ∈ ordL X k) := ⟨_, rfl⟩
            rw [← hbv] at c1
            have hU2 := (hU1.put f true).congr (T := fun j => decide (j ∈ ordL (setT X k f) (k + 1))) (fun j _ => by
              rw [hO2]
              by_cases e : j = f
              · simp [e]
              · simp [e])
            have hS2 := hS1.far (p := ⟨bn, f, none⟩) (fun e => hbb e.symm) (.bool true)
            have f2 : (wr.setCell ⟨bn, f, none⟩ (.bool true)).frozen? ⟨bs, f, none⟩ = false := hS2.free f
            have c2 := hS2.cell hfN
            rw [hSf] at c2
            have HA2 := Lib.hid ((HAD.out.trans HADV.out).set (p := ⟨bn, f, none⟩) hwn (.bool true))
            have HP2 := Lib.hid hP2
            have HO2 := Lib.hid hO2
            have HU2 := Lib.hid hU2
            have HS2 := Lib.hid hS2
            have HSF := Lib.hid hSf
            have HFN := Lib.hid hfn
            clear hP2 hO2 hU2 hS2 hSf hfn hfb hS1 hU1 HS HU HF HW HWN hbv
            go_upto_region 13 with fail
            obtain ⟨W2, hW2⟩ : ∃ V, V = (wr.setCell ⟨bn, f, none⟩ (.bool true)).setCell ⟨bs, f, none⟩ (.bool true) := ⟨_, rfl⟩
            have hA3 : Adds w W2 := by rw [hW2]; exact HA2.out.set (p := ⟨bs, f, none⟩) hws _
            have hS3 : SetI W2 bs N (putS S f) := by
              rw [hW2]
              refine (HS2.out.put f true).congr fun j _ => ?_
              by_cases e : j = f
              · simp [e, putS]
              · have hb : (j == f) = false := by simpa using e
                simp [e, putS, hb]
            have hU3 : SetI W2 bn N (fun j => decide (j ∈ ordL (setT X k f) (k + 1))) := by rw [hW2]; exact HU2.out.far (p := ⟨bs, f, none⟩) hbb _
            rw [← hW2]
            have HA3 := Lib.hid hA3
            have HS3 := Lib.hid hS3
            have HU3 := Lib.hid hU3
            clear hW2 hA3 hS3 hU3 HA2 HS2 HU2 f1 c1 f2 c2 HADV HAD
            rcases q.full_or HLT.out (putS S f) with ⟨t, ht⟩ | ho
            · have hE := HEY.out (some ⟨bs, 0, none⟩) N (putS S f) t W2 HA3.out HS3.out.bools ht
              have HG2 := Lib.hid (HG.out.yes HFN.out ht.fit)
              have HE := Lib.hid hE
              clear hE ht
              go_wp2_with (go_at_call 31; refine HE.out.mono ?_; rintro e w3 ⟨c3, q3, rfl, _, hb3⟩; have HB3 := Lib.hid hb3; clear hb3)
              exact ⟨⟨k + 1, setT X k f, putS S f, by omega, by go_num, HP2, Lib.hid (by rw [HO2.out]; exact HG2.out), Lib.hid (HS3.out.later HB3.out), Lib.hid (HU3.out.later HB3.out), Lib.hid (HA3.out.trans HB3.out)⟩, by simp [intOf]; omega⟩
            · have hE := HEN.out (some ⟨bs, 0, none⟩) N (putS S f) W2 HA3.out HS3.out.bools ho
              have HG2 := Lib.hid (HG.out.no HFN.out ho.none)
              have HE := Lib.hid hE
              clear hE ho
              go_upto_region 15 with (go_at_call 31; refine HE.out.mono ?_; rintro e w3 ⟨rfl, hb3⟩; have HB3 := Lib.hid hb3; clear hb3)
              have hS4 := HS3.out.later HB3.out
              have f4 : w3.frozen? ⟨bs, f, none⟩ = false := hS4.free f
              have c4 := hS4.cell hfN
              have HS4 := Lib.hid hS4
              obtain ⟨bv, hbv⟩ : ∃ b, b = putS S f f := ⟨_, rfl⟩
              rw [← hbv] at c4
              clear hS4 hbv
              go_wp2
              refine ⟨⟨k + 1, setT X k f, S, by omega, by go_num, HP2, Lib.hid (by rw [HO2.out]; exact HG2.out), Lib.hid ((HS4.out.put f false).congr fun j _ => ?_), Lib.hid ((HU3.out.later HB3.out).far (p := ⟨bs, f, none⟩) hbb _), Lib.hid ((HA3.out.trans HB3.out).set (p := ⟨bs, f, none⟩) hws _)⟩, by simp [intOf]; omega⟩
              by_cases e : j = f
              · rw [if_pos e, e, HSF.out]
              · have hb : (j == f) = false := by simpa using e
                rw [if_neg e]
                simp [putS, hb]
      · have hkk : N = k := by omega
        subst hkk
        have hkq : decide ((N : Int) < (N : Int)) = false := by simp
        have hgood := HBEST.out X S HP.out.done HG.out
        have HGOOD := Lib.hid hgood
        clear hgood HP HG HU HEY HEN HBEST
        go_upto_region 19 with fail
        go_loopw [15, 13, 14] (fun v15 v13 v14 wr => ∃ (i : Nat) (ps : Option Addr) (cs n : Nat) (sm : Int), i ≤ N ∧ v15 = .int .i64 i ∧ v13 = .slice ps n cs ∧ v14 = .int .i64 sm ∧ Hid (n = (setL S i).length) ∧ Hid (sm = worthL v (setL S i)) ∧ n ≤ i ∧ 0 ≤ sm ∧ sm ≤ 1000000 * (i : Int) ∧ Hid (wr.ownsRow w.heap.size 3 1 (.slice ps n cs) n ((numsI (setL S i)).map (Value.int .i64))) ∧ Hid (∀ r, (Value.slice ps n cs).ownBlock = some r → r ≠ bs) ∧ Hid (SetI wr bs N S) ∧ Hid (Adds w wr)) (fun v15 _ _ _ => N - (intOf v15).toNat)
        case atStart => exact ⟨0, none, 0, 0, 0, by omega, rfl, rfl, rfl, Lib.hid rfl, Lib.hid rfl, by omega, by omega, by omega, Lib.hid (World.ownsRow_nil _ _ _ _), Lib.hid (fun r e => by simp [Value.ownBlock] at e), HS, HAD⟩
        case round => as_aux_lemma =>
          clear HS HAD
          obtain ⟨i, ps, cs, n, sm, hi, rfl, rfl, rfl, HLN, HSM, hni, hs0, hs1, HO, HFR, HS, HAD⟩ := hrel
          by_cases hin : i < N
          · have hin2 : (i : Int) < (N : Int) := by omega
            have hi0 : (0 : Int) ≤ (i : Int) := by omega
            have kS := HS.out.cell hin
            have hse := setL_succ S i
            cases hSi : S i with
            | false =>
              rw [hSi] at kS hse
              simp only [Bool.false_eq_true, if_false, List.append_nil] at hse
              have HSE := Lib.hid hse
              clear hse hSi
              go_wp2
              exact ⟨⟨i + 1, ps, cs, n, sm, by omega, by go_num, rfl, rfl, Lib.hid (by rw [HSE.out]; exact HLN.out), Lib.hid (by rw [HSE.out]; exact HSM.out), by omega, hs0, by omega, Lib.hid (by rw [HSE.out]; exact HO.out), HFR, HS, HAD⟩, by simp [intOf]; omega⟩
            | true =>
              rw [hSi] at kS hse
              simp only [if_true] at hse
              have HSE := Lib.hid hse
              have hws2 := HAD.out.size
              have hvb := HWB.out i
              clear hse hSi
              go_upto_region 23 with (at_builtin; ((refine wpList_append_lies _ rfl _ _ 35 rfl w.heap.size 3 j0 (.int .i64 0) 1 8 Try.underlying35 HJ.out HJ0.out HJ1.out HJ2.out rfl (by decide) (.slice ps n cs) n _ rfl (HO.out.alloc _) ⟨wr.heap.size, 0, none⟩ 1 1 [.int .i64 i] rfl rfl (World.news_of_block (Box.new wr _ 3)) (by simp [Value.oneCell']) (by omega) (by unfold maxLen; omega) (by omega) (by simp; omega) (wr.heap.size + 1) (by simp) ?_); intro g7 c7 w7 ho7 hg7 hl7 hs7; have HO7 := Lib.hid ho7; have HG7 := Lib.hid hg7; have HL7 := Lib.hid hl7; clear ho7 hg7 hl7))
              have hblk : ∀ r, (Value.slice ps n cs).ownBlock = some r → w.heap.size ≤ r := fun r hr => (own_block HO.out hr).1
              have hA7 : Adds w w7 := Below.grown (HAD.out.alloc _) HG7.out (by simp; omega) hblk
              have hbl := HS.out.lt
              have hS7 : SetI w7 bs N S := by
                obtain ⟨cur, h1, h2⟩ := HS.out
                exact ⟨cur, (HG7.out.block bs (by simp; omega) (fun e => HFR.out bs e.symm rfl)).trans (((Adds.refl wr).alloc (.cells #[.int .i64 (i : Int)] 3)).block bs hbl |>.trans h1), h2⟩
              obtain ⟨g, off, rfl, _, kw⟩ := HWO.out w7 hA7 i hin
              obtain ⟨vi, hvi⟩ : ∃ y, y = v i := ⟨_, rfl⟩
              rw [← hvi] at kw hvb
              have HVI := Lib.hid hvi
              have HA7 := Lib.hid hA7
              have HS7 := Lib.hid hS7
              have hfr7 : ∀ r, (Value.slice (some ⟨g7, 0, none⟩) (n + 1) c7).ownBlock = some r → r ≠ bs := fun r hr e => by
                have hrg : r = g7 := by simpa [Value.ownBlock] using hr.symm
                rcases HL7.out with e2 | e2
                · exact HFR.out g7 e2 (by omega)
                · omega
              have HFR7 := Lib.hid hfr7
              clear hA7 hS7 hvi hfr7 hblk
              go_wp2
              exact ⟨⟨i + 1, some ⟨g7, 0, none⟩, c7, n + 1, sm + vi, by omega, by go_num, rfl, rfl, Lib.hid (by rw [HSE.out, List.length_append, ← HLN.out]; rfl), Lib.hid (by rw [HSE.out, worthL_snoc, ← HSM.out, ← HVI.out]), by omega, by omega, by omega, Lib.hid (by rw [HSE.out]; simpa [numsI] using HO7.out), HFR7, HS7, HA7⟩, by simp [intOf]; omega⟩
          · have hii : N = i := by omega
            subst hii
            go_wp2
            go_ret2
            refine ⟨S, cs, ps, HGOOD.out, by rw [← HLN.out, ← HSM.out]; rfl, ?_, HAD.out⟩
            rw [← HLN.out]
            have := HO.out
            exact nums_own this fun j hj => by
              have hj2 : j < (setL S N).length := by rw [← HLN.out]; exact hj
              rw [numsI_get (List.getElem?_eq_getElem hj2), List.getElem?_eq_getElem hj2]
              rfl
end Go.Proofs.Ytkofnhimgegcnaa

namespace Go.Proofs.Ytkofnhimgegcnaa
open Go Go.RowKit Go.Sort Go.Maps

theorem bit_eq (m i : Nat) : (((m : Int) / 2 ^ i).tmod 2 == 1) = m.testBit i := by
  have e : ((m : Int) / 2 ^ i).tmod 2 = ((m / 2 ^ i % 2 : Nat) : Int) := by
    have e1 : ((m : Int) / 2 ^ i) = ((m / 2 ^ i : Nat) : Int) := by simp
    rw [e1, Int.tmod_eq_emod_of_nonneg (Int.natCast_nonneg _)]
    simp
  rw [e, Nat.testBit_eq_decide_div_mod_eq]
  by_cases h : m / 2 ^ i % 2 = 1
  · simp [h]
  · have h0 : m / 2 ^ i % 2 = 0 := by omega
    simp [h0]
theorem mask_ex (S : Nat → Bool) : ∀ n, ∃ m, m < 2 ^ n ∧ ∀ i, i < n → m.testBit i = S i
  | 0 => ⟨0, by simp, fun i h => by omega⟩
  | n + 1 => by
    obtain ⟨m, h1, h2⟩ := mask_ex S n
    have hp : 2 ^ (n + 1) = 2 ^ n * 2 := Nat.pow_succ 2 n
    cases hS : S n with
    | true =>
      refine ⟨2 ^ n + m, by omega, fun i hi => ?_⟩
      by_cases e : i = n
      · subst e
        rw [Nat.testBit_two_pow_add_eq, Nat.testBit_lt_two_pow h1, hS]
        rfl
      · rw [Nat.testBit_two_pow_add_gt (by omega)]
        exact h2 i (by omega)
    | false =>
      refine ⟨m, by omega, fun i hi => ?_⟩
      by_cases e : i = n
      · subst e
        rw [Nat.testBit_lt_two_pow h1, hS]
      · exact h2 i (by omega)
theorem setL_congr {S T : Nat → Bool} {n : Nat} (h : ∀ i, i < n → S i = T i) : setL S n = setL T n := List.filter_congr fun i hi => h i (List.mem_range.1 hi)
theorem setL_none (n : Nat) : setL (fun _ => false) n = [] := List.filter_eq_nil_iff.2 (fun _ _ => by simp)
theorem setL_len (S : Nat → Bool) (n : Nat) : (setL S n).length ≤ n := by
  have := List.length_filter_le S (List.range n)
  rw [List.length_range] at this
  exact this
theorem setL_worth {v : Nat → Int} (hv : ∀ i, 0 ≤ v i ∧ v i ≤ 1000000) (S : Nat → Bool) (n : Nat) : 0 ≤ worthL v (setL S n) ∧ worthL v (setL S n) ≤ n * 1000000 := by
  have := worthL_bd hv (setL S n)
  have := setL_len S n
  omega
theorem pow_seven {n : Nat} (h : n ≤ 7) : 2 ^ n ≤ 128 := Nat.pow_le_pow_right (by omega) h
theorem wrap_pow {n : Nat} (h : n ≤ 7) : wrap64 ((2 : Int) ^ n) = ((2 ^ n : Nat) : Int) := by
  have e : (2 : Int) ^ n = ((2 ^ n : Nat) : Int) := by simp
  have := pow_seven h
  rw [e]
  generalize 2 ^ n = M at *
  unfold wrap64
  omega

set_option maxRecDepth 100000 in
set_option maxHeartbeats 1000000 in
theorem RTried_any (p : Option Addr) (cl K : Nat) (l : List Ld) (w : World) (hL : LoadsAt w p l) (hl : l.length ≤ 7) (hok : ∀ x ∈ l, okB x = true) (hK : 1 ≤ K ∧ K ≤ 64) :
    Calls Try.prog 35 #[.slice p l.length cl, .int .i64 K] w fun e w' => ∃ b : Int, e = .returned (.int .i64 b) ∧ (∃ S, (shOf l K).Fit S ∧ b = worthL (wOf l) (setL S l.length)) ∧ (∀ S, (shOf l K).Fit S → worthL (wOf l) (setL S l.length) ≤ b) ∧ Adds w w' := by
  have hwo : ∀ (W : World), Adds w W → ∀ i, i < l.length → ∃ g off, p = some ⟨g, off, none⟩ ∧ g < w.heap.size ∧ W.cell? ⟨g, off + i * 4 + 3, none⟩ = some (.int .i64 (wOf l i)) := fun W hW i hi => by
    obtain ⟨y, hy⟩ : ∃ y, l[i]? = some y := ⟨_, List.getElem?_eq_getElem hi⟩
    obtain ⟨g, off, e, c0, -, -, c3⟩ := hL i y hy
    exact ⟨g, off, e, cell_lt c0, by rw [wOf_get hy]; exact keep_cell hW c3⟩
  have hwb := worth_at hok
  have hey := fun (ps : Option Addr) (cs : Nat) (S : Nat → Bool) (t : Nat → Nat) (W : World) (hW : Adds w W) (hS : BoolsAt W ps l.length S) (hF : (shOf l K).Full S t) => REarly_yes p ps cl cs K l S W t (hL.later hW) hS (by omega) hok hK hF
  have hen := fun (ps : Option Addr) (cs : Nat) (S : Nat → Bool) (W : World) (hW : Adds w W) (hS : BoolsAt W ps l.length S) (hO : (shOf l K).Over S) => REarly_no p ps cl cs K l S W (hL.later hW) hS (by omega) hok hK hO
  obtain ⟨v, hv⟩ : ∃ v, v = wOf l := ⟨_, rfl⟩
  rw [← hv] at hwo hwb ⊢
  obtain ⟨q, hq⟩ : ∃ q, q = shOf l K := ⟨_, rfl⟩
  have hlt : ∀ i, i < q.n → q.r i < q.d i := by rw [hq]; exact shOf_lt (fun x hx => okB_okN (hok x hx))
  have hqn : q.n = l.length := by rw [hq]; rfl
  simp only [← hq] at hey hen ⊢
  obtain ⟨N, hN⟩ : ∃ N, N = l.length := ⟨_, rfl⟩
  rw [← hN] at hl hqn ⊢
  simp only [← hN] at hwo hey hen
  have HWO := Lib.hid hwo
  have HWB := Lib.hid hwb
  have HEY := Lib.hid hey
  have HEN := Lib.hid hen
  have HLT := Lib.hid hlt
  have HQN := Lib.hid hqn
  obtain ⟨hK1, hK2⟩ := hK
  have hmk := run_makeB N (by omega)
  have hM := pow_seven hl
  have HWP := Lib.hid (wrap_pow hl)
  obtain ⟨M, hM2⟩ : ∃ M, M = 2 ^ N := ⟨_, rfl⟩
  rw [← hM2] at hM HWP
  have HM2 := Lib.hid hM2
  clear hwo hwb hey hen hlt hN hq hv hL hok hqn hM2
  go_enter Try.func35, Try.ntmps35
  go_upto_region 3 with fail
  go_loopw [6, 5] (fun v6 v5 wr => ∃ (m : Nat) (b : Int), m ≤ M ∧ v6 = .int .i64 m ∧ v5 = .int .i64 b ∧ 0 ≤ b ∧ b ≤ 7000000 ∧ Hid (∃ S, q.Fit S ∧ b = worthL v (setL S N)) ∧ Hid (∀ m' : Nat, m' < m → q.Fit m'.testBit → worthL v (setL m'.testBit N) ≤ b) ∧ Hid (Adds w wr)) (fun v6 _ _ => M - (intOf v6).toNat)
  case atStart => exact ⟨0, 0, by omega, rfl, rfl, by omega, by omega, Lib.hid ⟨fun _ => false, (Sh.Full.none q (fun _ => 0)).fit, by rw [setL_none]; rfl⟩, Lib.hid (fun m' h => by omega), Lib.hid (Adds.refl _)⟩
  case round => as_aux_lemma =>
    obtain ⟨m, b, hm, rfl, rfl, hb0, hb1, HB, HALL, HAD⟩ := hrel
    by_cases hmM : m < M
    · have hq : decide ((m : Int) < wrap64 (2 ^ N)) = true := decide_eq_true (by rw [HWP.out]; omega)
      go_upto_region 8 with fail
      obtain ⟨bs, hbs⟩ : ∃ x, x = wr.heap.size := ⟨_, rfl⟩
      obtain ⟨W1, hW1⟩ : ∃ V, V = wr.alloc (blkB N) := ⟨_, rfl⟩
      have hS1 : SetI W1 bs N (fun j => decide (j < 0) && m.testBit j) := by
        rw [hW1, hbs]
        exact (SetI.made wr N).congr (fun j _ => by simp)
      have hA1 : Adds w W1 := by rw [hW1]; exact HAD.out.alloc _
      rw [← hW1, ← hbs]
      have hbw : w.heap.size ≤ bs := by have := HAD.out.size; omega
      have HS1 := Lib.hid hS1
      have HA1 := Lib.hid hA1
      clear hS1 hA1 hW1 hbs hq HAD
      go_loopw [9, 8] (fun v9 v8 wr => ∃ (i : Nat) (x : Int), i ≤ N ∧ v9 = .int .i64 i ∧ v8 = .int .i64 x ∧ 0 ≤ x ∧ x ≤ 7000000 ∧ Hid (x = worthL v (setL m.testBit i)) ∧ Hid (SetI wr bs N (fun j => decide (j < i) && m.testBit j)) ∧ Hid (Adds w wr)) (fun v9 _ _ => N - (intOf v9).toNat)
      case atStart => exact ⟨0, 0, by omega, rfl, rfl, by omega, by omega, Lib.hid (by simp [setL, worthL]), HS1, HA1⟩
      case round => as_aux_lemma =>
        clear HS1 HA1
        obtain ⟨i, x, hi, rfl, rfl, hx0, hx1, HX, HS, HAD⟩ := hrel
        by_cases hin : i < N
        · have hin2 : (i : Int) < (N : Int) := by omega
          have hi0 : (0 : Int) ≤ (i : Int) := by omega
          have kf : wr.frozen? ⟨bs, i, none⟩ = false := HS.out.free i
          have kh := HS.out.cell hin
          simp only [show decide (i < i) = false by simp, Bool.false_and] at kh
          have hw2 := setL_worth HWB.out m.testBit (i + 1)
          have hse := setL_succ m.testBit i
          obtain ⟨g, off, rfl, hgw, kw⟩ := HWO.out wr HAD.out i hin
          obtain ⟨vi, hvi⟩ : ∃ y, y = v i := ⟨_, rfl⟩
          rw [← hvi] at kw
          have HVI := Lib.hid hvi
          have hbe := bit_eq m i
          have hgb : g ≠ bs := by omega
          cases hbit : m.testBit i with
          | true =>
            rw [hbit] at hbe hse
            simp only [if_true] at hse
            rw [hse, worthL_snoc, ← HX.out, ← hvi] at hw2
            have HSE := Lib.hid hse
            have HBT := Lib.hid hbit
            clear hse hvi hbit
            go_wp2
            refine ⟨⟨i + 1, x + vi, by omega, by go_num, rfl, by omega, by omega, Lib.hid (by rw [HSE.out, worthL_snoc, ← HX.out, ← HVI.out]), Lib.hid ((HS.out.put i true).congr fun j _ => ?_), Lib.hid (HAD.out.set (p := ⟨bs, i, none⟩) hbw _)⟩, by simp [intOf]; omega⟩
            by_cases e : j = i
            · rw [if_pos e, e, HBT.out]; simp
            · rw [if_neg e, show decide (j < i) = decide (j < i + 1) by rw [decide_eq_decide]; omega]
          | false =>
            rw [hbit] at hbe hse
            simp only [Bool.false_eq_true, if_false, List.append_nil] at hse
            have HSE := Lib.hid hse
            have HBT := Lib.hid hbit
            clear hse hvi hbit hw2
            go_wp2
            refine ⟨⟨i + 1, x, by omega, by go_num, rfl, by omega, by omega, Lib.hid (by rw [HSE.out]; exact HX.out), Lib.hid ((HS.out.put i false).congr fun j _ => ?_), Lib.hid (HAD.out.set (p := ⟨bs, i, none⟩) hbw _)⟩, by simp [intOf]; omega⟩
            by_cases e : j = i
            · rw [if_pos e, e, HBT.out]; simp
            · rw [if_neg e, show decide (j < i) = decide (j < i + 1) by rw [decide_eq_decide]; omega]
        · have hii : i = N := by omega
          have hiq : decide ((i : Int) < (N : Int)) = false := decide_eq_false (by omega)
          have hbo : BoolsAt wr (some ⟨bs, 0, none⟩) N m.testBit := (HS.out.congr (T := m.testBit) (fun j hj => by simp; omega)).bools
          have hxw : x = worthL v (setL m.testBit N) := by rw [← hii]; exact HX.out
          have HBO := Lib.hid hbo
          have HXW := Lib.hid hxw
          clear hbo hxw HX HS
          by_cases hxb : x ≤ b
          · have hxq : decide (x ≤ b) = true := decide_eq_true hxb
            go_wp2
            exact ⟨⟨m + 1, b, by omega, by go_num, rfl, hb0, hb1, HB, Lib.hid (fun m' hm' hf => by
              by_cases e : m' = m
              · rw [e, ← HXW.out]; exact hxb
              · exact HALL.out m' (by omega) hf), HAD⟩, by simp [intOf]; omega⟩
          · have hxq : decide (x ≤ b) = false := decide_eq_false hxb
            rcases q.full_or HLT.out m.testBit with ⟨t, ht⟩ | ho
            · have hE := HEY.out (some ⟨bs, 0, none⟩) N m.testBit t wr HAD.out HBO.out ht
              have HE := Lib.hid hE
              have HFT := Lib.hid ht.fit
              clear hE ht
              go_wp2_with (go_at_call 31; refine HE.out.mono ?_; rintro e w3 ⟨c3, q3, rfl, _, hb3⟩; have HB3 := Lib.hid hb3; clear hb3)
              exact ⟨⟨m + 1, x, by omega, by go_num, rfl, hx0, hx1, Lib.hid ⟨m.testBit, HFT.out, HXW.out⟩, Lib.hid (fun m' hm' hf => by
                by_cases e : m' = m
                · rw [e, ← HXW.out]; omega
                · have := HALL.out m' (by omega) hf; omega), Lib.hid (HAD.out.trans HB3.out)⟩, by simp [intOf]; omega⟩
            · have hE := HEN.out (some ⟨bs, 0, none⟩) N m.testBit wr HAD.out HBO.out ho
              have HE := Lib.hid hE
              have HNF := Lib.hid ho.none
              clear hE ho
              go_wp2_with (go_at_call 31; refine HE.out.mono ?_; rintro e w3 ⟨rfl, hb3⟩; have HB3 := Lib.hid hb3; clear hb3)
              exact ⟨⟨m + 1, b, by omega, by go_num, rfl, hb0, hb1, HB, Lib.hid (fun m' hm' hf => by
                by_cases e : m' = m
                · rw [e] at hf; exact absurd hf HNF.out
                · exact HALL.out m' (by omega) hf), Lib.hid (HAD.out.trans HB3.out)⟩, by simp [intOf]; omega⟩
    · have hq : decide ((m : Int) < wrap64 (2 ^ N)) = false := decide_eq_false (by rw [HWP.out]; omega)
      have hall : ∀ S, q.Fit S → worthL v (setL S N) ≤ b := fun S hS => by
        obtain ⟨m', h1, h2⟩ := mask_ex S N
        rw [← HM2.out] at h1
        have := HALL.out m' (by omega) (hS.less fun i hi ht => by rw [← h2 i (by rw [← HQN.out]; exact hi)]; exact ht)
        rw [setL_congr (fun i hi => h2 i hi)] at this
        exact this
      have HA := Lib.hid hall
      clear hall
      go_wp2
      go_ret
      exact ⟨b, rfl, HB.out, HA.out, HAD.out⟩
end Go.Proofs.Ytkofnhimgegcnaa

namespace Go.Proofs.Ytkofnhimgegcnaa
open Go Go.RowKit Go.Sort Go.Maps

theorem worth_sumV {v : Nat → Int} (hv : ∀ i, 0 ≤ v i) (S : Nat → Bool) : ∀ L : List Nat, ((sumV (fun i => (v i).toNat) S L : Nat) : Int) = worthL v (L.filter S)
  | [] => rfl
  | x :: L => by
    have ih := worth_sumV hv S L
    have := hv x
    rw [sumV_cons]
    by_cases c : S x = true
    · rw [if_pos c, List.filter_cons_of_pos c]
      have e : worthL v (x :: L.filter S) = v x + worthL v (L.filter S) := by simp [worthL]
      rw [e, ← ih]
      omega
    · rw [if_neg c, List.filter_cons_of_neg c, ← ih]
      omega
theorem BestOK.most {l : List Ld} {K : Nat} {G B : Nat → Bool} (h : BestOK l K G) (hok : ∀ x ∈ l, okB x = true) (hB : (shOf l K).Fit B) : worthL (wOf l) (setL B l.length) ≤ worthL (wOf l) (setL G l.length) := by
  obtain ⟨X, h1, h2⟩ := h
  have hv : ∀ i, 0 ≤ wOf l i := fun i => (worth_at hok i).1
  have := Sh.Greedy.best (shOf_lt (fun x hx => okB_okN (hok x hx))) h2 (h1.nodup _ (Nat.le_refl _)) (fun i hi => by
    obtain ⟨a, a1, a2⟩ := ordL_mem.1 hi
    rw [← a2]
    exact h1.1 a a1) (fun i => (wOf l i).toNat) ((bef_pairs h1).imp fun {a b} e => by unfold bef at e; show (wOf l b).toNat ≤ (wOf l a).toNat; omega) hB
  rw [sumV_perm h1.perm, sumV_perm h1.perm] at this
  have e1 := worth_sumV hv B (List.range l.length)
  have e2 := worth_sumV hv G (List.range l.length)
  unfold setL
  omega
theorem BestOK.fit {l : List Ld} {K : Nat} {G : Nat → Bool} (h : BestOK l K G) : (shOf l K).Fit G := by
  obtain ⟨X, h1, h2⟩ := h
  refine (h2.fit (h1.nodup _ (Nat.le_refl _)) _ (Nat.le_refl _)).less fun i _ hi => ?_
  rw [List.take_length]
  simp [hi, h2.inn i hi]
theorem fit_more {l : List Ld} {K : Nat} {S : Nat → Bool} (h : (shOf l K).Fit S) : (shOf l (K + 1)).Fit S := by
  obtain ⟨t, a, b⟩ := h
  exact ⟨t, a, fun h => Nat.le_trans (b h) (Nat.le_succ K)⟩
theorem RTried_best (p : Option Addr) (cl K : Nat) (l : List Ld) (w : World) (hL : LoadsAt w p l) (hl : l.length ≤ 7) (hok : ∀ x ∈ l, okB x = true) (hK : 1 ≤ K ∧ K ≤ 64) {G : Nat → Bool} (hG : BestOK l K G) :
    Calls Try.prog 35 #[.slice p l.length cl, .int .i64 K] w fun e w' => e = .returned (.int .i64 (worthL (wOf l) (setL G l.length))) ∧ Adds w w' :=
  (RTried_any p cl K l w hL hl hok hK).mono (by
    rintro e w' ⟨b, rfl, ⟨S, h1, h2⟩, h3, h4⟩
    have := h3 G hG.fit
    have := hG.most hok h1
    exact ⟨by rw [show b = worthL (wOf l) (setL G l.length) by omega], h4⟩)

set_option maxRecDepth 100000 in
set_option maxHeartbeats 2000000 in
theorem best_law (p : Option Addr) (cl : Nat) (l : List Ld) (x : Int) (w : World) (hL : LoadsAt w p l) (hcl : l.length ≤ cl) (hmx : cl ≤ maxLen) :
    Calls Try.prog 8 #[.slice p l.length cl, .int .i64 x] w fun e w' => e = .returned (.bool true) ∧ Adds w w' := by
  have HTM := Lib.hid (tame_short p cl 20 l w hL (by omega) hcl hmx)
  have HTF := Lib.hid (fun (W : World) (hW : Adds w W) => tame_short p cl 7 l W (hL.later hW) (by omega) hcl hmx)
  generalize l.length = N at *
  clear hL hcl hmx
  go_enter Try.func8, Try.ntmps8
  obtain ⟨hx0, hx1⟩ := wmod x 3 (by omega) (by omega)
  go_upto_region 2 with fail
  obtain ⟨K, hK⟩ : ∃ K : Nat, (K : Int) = 1 + wrap64 ((IntKind.u64.wrap x).tmod 3) := ⟨(1 + wrap64 ((IntKind.u64.wrap x).tmod 3)).toNat, by omega⟩
  simp only [← hK]
  have hKb : 1 ≤ K ∧ K ≤ 3 := by omega
  clear hK hx0 hx1
  go_upto_region 3 with (go_at_call 13; refine HTM.out.mono ?_; rintro e w1 ⟨c0, q0, l0, rfl, h1, h2, h3, h4, hb1⟩; have HL0 := Lib.hid h1; have HOK0 := Lib.hid h3; have HSH0 := Lib.hid h4; have HB1 := Lib.hid hb1; clear h1 h3 h4 hb1)
  have HG0 := Lib.hid (fun (W : World) (hW : Adds w1 W) => give_at q0 c0 l0 W (HL0.out.later hW) (by omega))
  have HBE := Lib.hid (fun (q2 : Option Addr) (c2 : Nat) (W : World) (hW : LoadsAt W q2 l0) => Best_any q2 c2 K l0 W hW (by omega) HOK0.out (short_any HSH0.out) (by omega))
  have HBM : Hid (∀ (q2 : Option Addr) (c2 : Nat) (W : World), LoadsAt W q2 l0 → Calls Try.prog 30 #[.slice q2 l0.length c2, .int .i64 ((K : Int) + 1)] W fun e w' => ∃ (G : Nat → Bool) (c : Nat) (q : Option Addr), BestOK l0 (K + 1) G ∧ e = .returned (.tuple #[.slice q (setL G l0.length).length c, .int .i64 (worthL (wOf l0) (setL G l0.length)), .int .i64 0]) ∧ NumsAt w' q (setL G l0.length).length (fun i => (((setL G l0.length)[i]?.getD 0 : Nat) : Int)) ∧ Adds W w') := Lib.hid (fun q2 c2 W hW => by
    have h := Best_any q2 c2 (K + 1) l0 W hW (by omega) HOK0.out (short_any HSH0.out) (by omega)
    rw [show ((K + 1 : Nat) : Int) = (K : Int) + 1 by omega] at h
    exact h)
  have HRB := Lib.hid (fun (W : World) (hW : Adds w1 W) => RBest_any q0 c0 K l0 W (HL0.out.later hW) (by omega) HOK0.out (by omega))
  have hsl : ∀ G : Nat → Bool, (setL G l0.length).length ≤ 256 := fun G => by have := setL_len G l0.length; omega
  have HSL := Lib.hid hsl
  have HMO := Lib.hid (fun (K : Nat) (G B : Nat → Bool) (h : BestOK l0 K G) (hB : (shOf l0 K).Fit B) => h.most HOK0.out hB)
  obtain ⟨m0, hm0⟩ : ∃ m, m = l0.length := ⟨_, rfl⟩
  rw [← hm0] at h2 HG0 HBE HBM HRB HSL HMO ⊢
  clear hm0 HTM HL0 HOK0 HSH0 hsl
  obtain ⟨v, hv⟩ : ∃ v, v = wOf l0 := ⟨_, rfl⟩
  rw [← hv] at HBE HBM HRB HMO
  clear hv
  go_upto_region 4 with (first
    | (go_at_call 16; refine (HG0.out _ (Adds.refl _)).mono ?_; rintro e w2 ⟨c2, q2, rfl, hq2, hb2⟩; have HQ2 := Lib.hid hq2; have HB2 := Lib.hid hb2; clear hq2 hb2)
    | (go_at_call 30; refine (HBE.out _ _ _ HQ2.out).mono ?_; rintro e w3 ⟨G, c3, q3, hG, rfl, hn3, hb3⟩; have HGG := Lib.hid hG; have HN3 := Lib.hid hn3; have HB3 := Lib.hid hb3; clear hG hn3 hb3))
  go_upto_region 5 with (go_at_call 34; refine (HRB.out _ (HB2.out.trans HB3.out)).mono ?_; rintro e w4 ⟨G', c4, q4, hG', rfl, hn4, hb4⟩; have HG4 := Lib.hid hG'; have HN4 := Lib.hid hn4; have HB4 := Lib.hid hb4; clear hG' hn4 hb4)
  obtain rfl := HGG.out.unique HG4.out
  go_upto_region 6 with (first
    | (go_at_call 16; refine (HG0.out _ ((HB2.out.trans HB3.out).trans HB4.out)).mono ?_; rintro e w5 ⟨c5, q5, rfl, hq5, hb5⟩; have HQ5 := Lib.hid hq5; have HB5 := Lib.hid hb5; clear hq5 hb5)
    | (go_at_call 30; refine (HBM.out _ _ _ HQ5.out).mono ?_; rintro e w6 ⟨G2, c6, q6, hG2, rfl, _, hb6⟩; have HG6 := Lib.hid hG2; have HB6 := Lib.hid hb6; clear hG2 hb6))
  have hmore := HMO.out (K + 1) G2 G HG6.out (fit_more HGG.out.fit)
  obtain ⟨n3, hn3⟩ : ∃ n, n = (setL G m0).length := ⟨_, rfl⟩
  obtain ⟨s3, hs3⟩ : ∃ y, y = worthL v (setL G m0) := ⟨_, rfl⟩
  obtain ⟨s6, hs6⟩ : ∃ y, y = worthL v (setL G2 m0) := ⟨_, rfl⟩
  obtain ⟨f3, hf3⟩ : ∃ f : Nat → Int, f = fun i => (((setL G m0)[i]?.getD 0 : Nat) : Int) := ⟨_, rfl⟩
  rw [← hs3, ← hs6] at hmore
  rw [← hn3, ← hf3] at HN3 HN4
  have hnl := HSL.out G
  rw [← hn3] at hnl
  rw [← hn3, ← hs3, ← hs6]
  have hlt : decide (s6 < s3) = false := decide_eq_false (by omega)
  have hse : (s3 != s3) = false := by simp
  have HIN := Lib.hid (fun (W : World) (hW : Adds w6 W) => ints_same q3 q4 c3 c4 n3 f3 W (HN3.out.later (((HB4.out.trans HB5.out).trans HB6.out).trans hW)) (HN4.out.later ((HB5.out.trans HB6.out).trans hW)) hnl)
  have HA6 := Lib.hid (((((HB1.out.trans HB2.out).trans HB3.out).trans HB4.out).trans HB5.out).trans HB6.out)
  clear hn3 hs3 hs6 hf3 HMO HSL HRB HBM HBE HG0 HGG HG4 HG6 HN3 HN4 HB1 HB2 HB3 HB4 HB5 HB6 HQ2 HQ5
  go_upto_region 8 with (go_at_call 33; refine (HIN.out _ (Adds.refl _)).mono ?_; rintro e w7 ⟨rfl, hb7⟩; have HB7 := Lib.hid hb7; clear hb7)
  have HA7 := Lib.hid (HA6.out.trans HB7.out)
  clear HA6 HB7 HIN
  go_upto_region 9 with (go_at_call 13; refine (HTF.out _ HA7.out).mono ?_; rintro e w8 ⟨c8, q8, l8, rfl, h1, h8, h3, h4, hb8⟩; have HL8 := Lib.hid h1; have HOK8 := Lib.hid h3; have HSH8 := Lib.hid h4; have HA8 := Lib.hid (HA7.out.trans hb8); clear h1 h3 h4 hb8)
  have HG8 := Lib.hid (fun (W : World) (hW : Adds w8 W) => give_at q8 c8 l8 W (HL8.out.later hW) (by omega))
  have HBE := Lib.hid (fun (q2 : Option Addr) (c2 : Nat) (W : World) (hW : LoadsAt W q2 l8) => Best_any q2 c2 K l8 W hW (by omega) HOK8.out (short_any HSH8.out) (by omega))
  have HRT := Lib.hid (fun (G : Nat → Bool) (hG : BestOK l8 K G) (W : World) (hW : Adds w8 W) => RTried_best q8 c8 K l8 W (HL8.out.later hW) (by omega) HOK8.out (by omega) hG)
  obtain ⟨m8, hm8⟩ : ∃ m, m = l8.length := ⟨_, rfl⟩
  rw [← hm8] at h8 HG8 HBE HRT ⊢
  clear hm8 HTF HL8 HOK8 HSH8 HA7
  obtain ⟨v8, hv8⟩ : ∃ v, v = wOf l8 := ⟨_, rfl⟩
  rw [← hv8] at HBE HRT
  clear hv8
  go_upto_region 10 with (first
    | (go_at_call 16; refine (HG8.out _ (Adds.refl _)).mono ?_; rintro e w9 ⟨c9, q9, rfl, hq9, hb9⟩; have HQ9 := Lib.hid hq9; have HB9 := Lib.hid hb9; clear hq9 hb9)
    | (go_at_call 30; refine (HBE.out _ _ _ HQ9.out).mono ?_; rintro e wa ⟨Ga, ca, qa, hGa, rfl, _, hba⟩; have HGA := Lib.hid hGa; have HBA := Lib.hid hba; clear hGa hba))
  have hrt := HRT.out Ga HGA.out wa (HB9.out.trans HBA.out)
  obtain ⟨sa, hsa⟩ : ∃ y, y = worthL v8 (setL Ga m8) := ⟨_, rfl⟩
  rw [← hsa] at hrt ⊢
  have HR := Lib.hid hrt
  have hse2 : (sa == sa) = true := by simp
  clear hrt hsa HRT HBE HG8 HGA HQ9
  go_wp2_with (first
    | (go_at_call 35; refine HR.out.mono ?_; rintro e wb ⟨rfl, hbb⟩; have HBB := Lib.hid hbb; clear hbb)
    | (go_at_call 17; refine (awake_any _).mono ?_; rintro e wc ⟨rfl, hbc⟩))
  go_ret
  exact ⟨rfl, (((HA8.out.trans HB9.out).trans HBA.out).trans HBB.out).trans hbc⟩
end Go.Proofs.Ytkofnhimgegcnaa
