/- margin: what positions need. -/
import Derived.Test.YtmkpidipoadnbaaW09
import Derived.Test.YtmkpidipoadnbaaW10
import Derived.BigRegion
namespace Go.Proofs.Ytmkpidipoadnbaa
open Go Go.RowKit Go.Sort

def ratesT (rate : Int) (l : List Int) : List Int := l.map fun x => x * rate
def spanT (rate : Int) (pos prices : List Int) : Int := dotT (absT pos) (ratesT rate prices)
def marginT (moves : List (List Int)) (rate : Int) (pos prices : List Int) : Int := (spanT rate pos prices + 999) / 1000 + greatT 0 (lossesT moves pos)

def rateK (rate : Int) (l : List Int) (k : Nat) : List Int := ratesT rate (l.take k) ++ l.drop k
theorem rateK_len (rate : Int) (l : List Int) (k : Nat) : (rateK rate l k).length = l.length := by simp [rateK, ratesT]; omega
theorem rate_step {rate : Int} {l : List Int} {k : Nat} {x : Int} (hx : l[k]? = some x) : (rateK rate l k).set k (x * rate) = rateK rate l (k + 1) ∧ (rateK rate l k)[k]? = some x := by
  obtain ⟨hk, he⟩ := List.getElem?_eq_some_iff.1 hx
  unfold rateK
  have h1 : (ratesT rate (l.take k)).length = k := by simp [ratesT]; omega
  constructor
  · rw [List.take_succ_eq_append_getElem hk, List.drop_eq_getElem_cons hk, he]
    rw [List.set_append_right _ _ (by omega), h1, Nat.sub_self]
    simp [ratesT]
  · rw [List.getElem?_append_right (by omega), h1, Nat.sub_self, List.drop_eq_getElem_cons hk, he]
    rfl

theorem great_bd {l : List Int} {B : Int} (h0 : 0 ≤ B) (h : ∀ y ∈ l, y ≤ B) : 0 ≤ greatT 0 l ∧ greatT 0 l ≤ B := by
  have : ∀ (l : List Int) (x : Int), 0 ≤ x → x ≤ B → (∀ y ∈ l, y ≤ B) → 0 ≤ greatT x l ∧ greatT x l ≤ B := by
    intro l
    induction l with
    | nil => intro x h1 h2 _; exact ⟨h1, h2⟩
    | cons y l ih =>
      intro x h1 h2 h3
      have hy := h3 y (by simp)
      exact ih (max x y) (by omega) (by omega) (fun z hz => h3 z (by simp [hz]))
  exact this l 0 (by omega) h0 h
theorem dot_nonneg : ∀ {l m : List Int}, (∀ x ∈ l, 0 ≤ x) → (∀ x ∈ m, 0 ≤ x) → 0 ≤ dotT l m
  | [], m, _, _ => by rw [dotT_nil]; omega
  | x :: l, [], _, _ => by simp [dotT]
  | x :: l, y :: m, hl, hm => by
    have h1 := dot_nonneg (l := l) (m := m) (fun z hz => hl z (by simp [hz])) (fun z hz => hm z (by simp [hz]))
    have h2 := Int.mul_nonneg (hl x (by simp)) (hm y (by simp))
    simp only [dotT]
    omega

/-- What a call on a house asks of its margins. -/
structure Calm (h : Hs) : Prop where
  prices : h.prices.length = 12
  moves : ∀ m ∈ h.moves, m.length = 12 ∧ Few 4294967296 m
  few : h.moves.length ≤ 64
  rate0 : 0 ≤ h.rate
  rate1 : h.rate ≤ 1000
  price : ∀ p ∈ h.prices, 0 ≤ p ∧ p ≤ 2000000

set_option maxRecDepth 100000 in
set_option maxHeartbeats 8000000 in
theorem margin_any (b cm : Nat) (pm : Option Addr) (h : Hs) (pos prices : List Int) (w : World) (hc : Calm h) (h14 : w.cell? ⟨b, 14, none⟩ = some (.slice pm h.moves.length cm)) (h15 : w.cell? ⟨b, 15, none⟩ = some (.int .i64 h.rate)) (hM : CellsAt w pm (h.moves.flatMap encM))
    (hl : pos.length = 12) (hp : Few 1152921504606846976 pos) (hpl : prices.length = 12) (hpp : ∀ p ∈ prices, 0 ≤ p ∧ p ≤ 2000000) :
    Calls Try.prog 39 #[.pointer (some ⟨b, 0, none⟩), monthV pos, monthV prices] w fun e w' => e = .returned (wideV (marginT h.moves h.rate pos prices)) ∧ Adds w w' := by
  obtain ⟨rate, hrate⟩ : ∃ r, r = h.rate := ⟨_, rfl⟩
  rw [← hrate] at h15 ⊢
  have hr0 := hc.rate0
  have hr1 := hc.rate1
  rw [← hrate] at hr0 hr1
  have HPP := Lib.hid hpp
  have HPL := Lib.hid hpl
  have HL := Lib.hid hl
  have HP := Lib.hid hp
  have HC := Lib.hid hc
  have HM := Lib.hid hM
  have H14 := Lib.hid h14
  have H15 := Lib.hid h15
  have hlt := cell_lt h14
  unfold monthV
  obtain ⟨av, hav⟩ : ∃ v, v = (pos.map (Value.int .i64)).toArray := ⟨_, rfl⟩
  obtain ⟨bv, hbv⟩ : ∃ v, v = (prices.map (Value.int .i64)).toArray := ⟨_, rfl⟩
  rw [← hav, ← hbv]
  have HAV := Lib.hid hav
  have HBV := Lib.hid hbv
  clear hc hM hl hp hpl hpp hav hbv hrate
  go_enter Try.func39, Try.ntmps39
  go_upto_region 1 with fail
  have k0 := ((Box.new w av 61).alloc (.cells bv 61)).alloc (.cells #[.int .i64 0, .int .u64 0] 89)
  have k1 := (Box.new (w.alloc (.cells av 61)) bv 61).alloc (.cells #[.int .i64 0, .int .u64 0] 89)
  have k2 := Box.new ((w.alloc (.cells av 61)).alloc (.cells bv 61)) #[.int .i64 0, .int .u64 0] 89
  have hA : Adds w (((w.alloc (.cells av 61)).alloc (.cells bv 61)).alloc (.cells #[.int .i64 0, .int .u64 0] 89)) := (((Adds.refl w).alloc _).alloc _).alloc _
  rw [World.size_alloc] at k1
  rw [World.size_alloc, World.size_alloc] at k2
  obtain ⟨W, hW⟩ : ∃ V, V = ((w.alloc (.cells av 61)).alloc (.cells bv 61)).alloc (.cells #[.int .i64 0, .int .u64 0] 89) := ⟨_, rfl⟩
  rw [← hW] at k0 k1 k2 hA ⊢
  obtain ⟨s, hs⟩ : ∃ s, s = w.heap.size := ⟨_, rfl⟩
  rw [← hs] at k0 k1 k2 ⊢
  have HA := Lib.hid hA
  have K0 := Lib.hid k0
  have K1 := Lib.hid k1
  have K2 := Lib.hid k2
  have HS := Lib.hid hs
  clear hW hs k0 k1 k2 hA h14 h15
  go_upto_region 2 with fail
  go_loopw [11] (fun v11 wr => ∃ k : Nat, k ≤ 12 ∧ v11 = .int .i64 k ∧ Hid (Box wr s av 61) ∧ Hid (Box wr (s + 1) ((rateK rate prices k).map (Value.int .i64)).toArray 61) ∧ Hid (Box wr (s + 1 + 1) #[.int .i64 0, .int .u64 0] 89) ∧ Hid (Adds w wr)) (fun v11 _ => 12 - (intOf v11).toNat)
  case atStart => exact ⟨0, by omega, rfl, K0, Lib.hid (by rw [show rateK rate prices 0 = prices by simp [rateK, ratesT], ← HBV.out]; exact K1.out), K2, HA⟩
  case round =>
    obtain ⟨k, hk, rfl, R0, R1, R2, RA⟩ := hrel
    clear K0 K1 K2 HA
    by_cases hlt2 : k < 12
    · have hlt3 : (k : Int) < 12 := by omega
      have hk0 : (0 : Int) ≤ (k : Int) := by omega
      obtain ⟨x, hx⟩ : ∃ x, prices[k]? = some x := ⟨_, List.getElem?_eq_getElem (by have := HPL.out; omega)⟩
      have HNX := Lib.hid (rate_step (rate := rate) hx).1
      have hxb := HPP.out x (List.mem_of_getElem? hx)
      have d0 : wr.cell? ⟨s + 1, k, none⟩ = some (.int .i64 x) := month_box R1.out (rate_step (rate := rate) hx).2
      have d1 : wr.frozen? ⟨s + 1, k, none⟩ = false := R1.out.free k
      have d2 : wr.cell? ⟨b, 15, none⟩ = some (.int .i64 rate) := keep_cell RA.out H15.out
      have hm1 : 0 ≤ x * rate := Int.mul_nonneg hxb.1 hr0
      have hm2 : x * rate ≤ 2000000000 := by
        have h1 : x * rate ≤ 2000000 * rate := Int.mul_le_mul_of_nonneg_right hxb.2 hr0
        omega
      have hne : s + 1 ≠ b := by have := HS.out; omega
      clear hx hxb
      go_upto_region 4 with fail
      go_region
      all_goals go_wp2
      exact ⟨⟨k + 1, by omega, by go_num, Lib.hid ((R0.out.far (by show s ≠ s + 1; omega) _).drew), Lib.hid (by rw [← HNX.out, ← set_ints]; exact (R1.out.set k _).drew), Lib.hid ((R2.out.far (by show s + 1 + 1 ≠ s + 1; omega) _).drew), Lib.hid ((RA.out.set (by have := HS.out; show _ ≤ s + 1; omega) _).drew)⟩, by simp [intOf]; omega⟩
    · have hkk : k = 12 := by omega
      subst hkk
      have e1 : rateK rate prices 12 = ratesT rate prices := by
        have := HPL.out
        unfold rateK
        rw [List.take_of_length_le (by omega), List.drop_eq_nil_of_le (by omega), List.append_nil]
      rw [e1] at R1
      clear e1 hlt2
      obtain ⟨pv, hpv⟩ : ∃ v, v = ratesT rate prices := ⟨_, rfl⟩
      rw [← hpv] at R1
      have hpvl : pv.length = 12 := by rw [hpv]; simp [ratesT, HPL.out]
      have hpvf : Few 4294967296 pv := fun y hy => by
        rw [hpv] at hy
        obtain ⟨x, hx, rfl⟩ := List.mem_map.1 hy
        have hxb := HPP.out x hx
        have h0 : 0 ≤ x * rate := Int.mul_nonneg hxb.1 hr0
        have h1 : x * rate ≤ 2000000 * rate := Int.mul_le_mul_of_nonneg_right hxb.2 hr0
        omega
      have hpa : Few 2305843009213693952 (absT pos) := fun y hy => by
        obtain ⟨x, hx, rfl⟩ := List.mem_map.1 hy
        have := HP.out x hx
        omega
      have HSZ := Lib.hid (fun w => sizes_any pos w HL.out (fun y hy => by have := HP.out y hy; omega))
      have HTM := Lib.hid (fun w => times12_any (absT pos) pv w (by rw [abs_len]; exact HL.out) hpvl hpa hpvf)
      have HDI : Hid (InW (dotT (absT pos) pv) ∧ 0 ≤ dotT (absT pos) pv ∧ dotT (absT pos) pv ≤ 118842243771396506390315925504) := Lib.hid (by
        have h1 := dot_bd (a := 2305843009213693952) (b := 4294967296) (by omega) (by omega) (absT pos) pv hpa hpvf
        rw [abs_len, HL.out] at h1
        have h2 : 0 ≤ dotT (absT pos) pv := dot_nonneg (fun y hy => by obtain ⟨x, _, rfl⟩ := List.mem_map.1 hy; omega) (fun y hy => by rw [hpv] at hy; obtain ⟨x, hx, rfl⟩ := List.mem_map.1 hy; exact Int.mul_nonneg (HPP.out x hx).1 hr0)
        refine ⟨by unfold InW; omega, h2, by omega⟩)
      have HPV := Lib.hid hpv
      have HPVL := Lib.hid hpvl
      obtain ⟨d, hd⟩ : ∃ d, d = dotT (absT pos) pv := ⟨_, rfl⟩
      rw [← hd] at HTM HDI
      have HD := Lib.hid hd
      unfold wideV monthV at *
      rw [← HAV.out] at HSZ
      clear hpvl hpvf hpa hpv hd
      obtain ⟨wo, rfl⟩ : ∃ wo : World, wo = wr := ⟨_, rfl⟩
      go_upto_region 6 with fail
      refine wp_region_rules (fun i => i == 5) (fun wq => Hid (Box wq s av 61) ∧ Hid (Box wq (s + 1) (pv.map (Value.int .i64)).toArray 61) ∧ Hid (Box wq (s + 1 + 1) #[.int .i64 0, .int .u64 0] 89) ∧ Hid (Adds wo wq)) Adds (fun i v wq => match i with | 0 => v = .agg av | 1 => v = .agg ((absT pos).map (Value.int .i64)).toArray | 2 => v = .agg (pv.map (Value.int .i64)).toArray | 3 => v = .agg #[.int .i64 (hiW d), .int .u64 (loW d)] | 4 => ∃ g, v = .pointer (some ⟨g, 0, none⟩) ∧ Box wq g #[.int .i64 0, .int .u64 0] 89 ∧ wo.heap.size ≤ g | _ => True) (by kernel_rfl) (by kernel_rfl) (by kernel_rfl) (by kernel_rfl) 6 (by kernel_rfl) [some 24, some 25, some 26, some 27, some 8, none] (by kernel_rfl) 1 #[true, true, true, true, true, false] (by kernel_rfl) (by kernel_rfl) ?hS ?hstab ?hrules ?hrest
      case hS => exact ⟨Lib.hid R0.out.drew, Lib.hid R1.out.drew, Lib.hid R2.out.drew, Lib.hid (Adds.refl wo).drew⟩
      case hstab =>
        intro j v w1 w2 hst _ h
        match j, h with
        | 4, h => exact (by obtain ⟨g, h1, h2, h3⟩ := h; exact ⟨g, h1, h2.later hst, h3⟩)
        | 0, h => exact h
        | 1, h => exact h
        | 2, h => exact h
        | 3, h => exact h
        | 5, h => trivial
        | _ + 6, h => trivial
      case hrules =>
        refine rules_cons (n := 6) (ds := [some 24, some 25, some 26, some 27, some 8, none]) (by kernel_rfl) (by kernel_rfl) [] rfl (by kernel_rfl) ?_ ?_
        · intro x wq hx hS hdep K hK
          obtain ⟨x0, x1, x2, x3, x4, x5, rfl⟩ := len6 hx
          have s0 := hS.1
          have s1 := hS.2.1
          have s2 := hS.2.2.1
          have sA := hS.2.2.2
          clear hdep hx hS
          simp only [putD, Act.put, List.setIfInBounds_toArray, List.set_cons_zero, List.set_cons_succ]
          refine wp_load_row 61 _ rfl s rfl 61 av (0, 0) _ s0.out Try.underlying61 rfl (by rw [info_month]; rw [HAV.out]; simp [HL.out]) ?_
          have hk := hK.out (.agg av) _ (Adds.refl wq) ⟨s0, s1, s2, sA⟩ rfl (fun _ _ _ _ => ⟨trivial, trivial⟩)
          simp only [putD, Act.put, List.setIfInBounds_toArray, List.set_cons_zero, List.set_cons_succ] at hk
          exact hk
        refine rules_cons (n := 6) (ds := [some 24, some 25, some 26, some 27, some 8, none]) (by kernel_rfl) (by kernel_rfl) [0] rfl (by kernel_rfl) ?_ ?_
        · intro x wq hx hS hdep K hK
          obtain ⟨x0, x1, x2, x3, x4, x5, rfl⟩ := len6 hx
          obtain rfl : x0 = .agg av := hdep 0 (by simp)
          have s0 := hS.1
          have s1 := hS.2.1
          have s2 := hS.2.2.1
          have sA := hS.2.2.2
          clear hdep hx hS
          simp only [putD, Act.put, List.setIfInBounds_toArray, List.set_cons_zero, List.set_cons_succ]
          go_simp
          go_at_call 54
          refine (HSZ.out _).mono ?_
          rintro e w1 ⟨rfl, ha⟩
          have hk := hK.out (.agg ((absT pos).map (Value.int .i64)).toArray) _ ha ⟨Lib.hid (s0.out.later ha), Lib.hid (s1.out.later ha), Lib.hid (s2.out.later ha), Lib.hid (sA.out.trans ha)⟩ rfl (fun _ _ _ _ => ⟨trivial, trivial⟩)
          simp only [putD, Act.put, List.setIfInBounds_toArray, List.set_cons_zero, List.set_cons_succ] at hk
          exact hk
        refine rules_cons (n := 6) (ds := [some 24, some 25, some 26, some 27, some 8, none]) (by kernel_rfl) (by kernel_rfl) [] rfl (by kernel_rfl) ?_ ?_
        · intro x wq hx hS hdep K hK
          obtain ⟨x0, x1, x2, x3, x4, x5, rfl⟩ := len6 hx
          have s0 := hS.1
          have s1 := hS.2.1
          have s2 := hS.2.2.1
          have sA := hS.2.2.2
          clear hdep hx hS
          simp only [putD, Act.put, List.setIfInBounds_toArray, List.set_cons_zero, List.set_cons_succ]
          refine wp_load_row 61 _ rfl (s + 1) rfl 61 (pv.map (Value.int .i64)).toArray (0, 0) _ s1.out Try.underlying61 rfl (by rw [info_month]; simp [HPVL.out]) ?_
          have hk := hK.out (.agg (pv.map (Value.int .i64)).toArray) _ (Adds.refl wq) ⟨s0, s1, s2, sA⟩ rfl (fun _ _ _ _ => ⟨trivial, trivial⟩)
          simp only [putD, Act.put, List.setIfInBounds_toArray, List.set_cons_zero, List.set_cons_succ] at hk
          exact hk
        refine rules_cons (n := 6) (ds := [some 24, some 25, some 26, some 27, some 8, none]) (by kernel_rfl) (by kernel_rfl) [1, 2] rfl (by kernel_rfl) ?_ ?_
        · intro x wq hx hS hdep K hK
          obtain ⟨x0, x1, x2, x3, x4, x5, rfl⟩ := len6 hx
          obtain rfl : x1 = .agg ((absT pos).map (Value.int .i64)).toArray := hdep 1 (by simp)
          obtain rfl : x2 = .agg (pv.map (Value.int .i64)).toArray := hdep 2 (by simp)
          have s0 := hS.1
          have s1 := hS.2.1
          have s2 := hS.2.2.1
          have sA := hS.2.2.2
          clear hdep hx hS
          simp only [putD, Act.put, List.setIfInBounds_toArray, List.set_cons_zero, List.set_cons_succ]
          go_simp
          go_at_call 55
          refine (HTM.out _).mono ?_
          rintro e w1 ⟨rfl, ha⟩
          have hk := hK.out (.agg #[.int .i64 (hiW d), .int .u64 (loW d)]) _ ha ⟨Lib.hid (s0.out.later ha), Lib.hid (s1.out.later ha), Lib.hid (s2.out.later ha), Lib.hid (sA.out.trans ha)⟩ rfl (fun _ _ _ _ => ⟨trivial, trivial⟩)
          simp only [putD, Act.put, List.setIfInBounds_toArray, List.set_cons_zero, List.set_cons_succ] at hk
          exact hk
        refine rules_cons (n := 6) (ds := [some 24, some 25, some 26, some 27, some 8, none]) (by kernel_rfl) (by kernel_rfl) [] rfl (by kernel_rfl) ?_ ?_
        · intro x wq hx hS hdep K hK
          obtain ⟨x0, x1, x2, x3, x4, x5, rfl⟩ := len6 hx
          have s0 := hS.1
          have s1 := hS.2.1
          have s2 := hS.2.2.1
          have sA := hS.2.2.2
          clear hdep hx hS
          simp only [putD, Act.put, List.setIfInBounds_toArray, List.set_cons_zero, List.set_cons_succ]
          go_simp
          have ha := (Adds.refl wq).alloc (.cells #[.int .i64 0, .int .u64 0] 89)
          have hk := hK.out (.pointer (some ⟨wq.heap.size, 0, none⟩)) _ ha ⟨Lib.hid (s0.out.later ha), Lib.hid (s1.out.later ha), Lib.hid (s2.out.later ha), Lib.hid (sA.out.trans ha)⟩ ⟨wq.heap.size, rfl, Box.new _ _ _, sA.out.size⟩ (fun _ _ _ _ => ⟨trivial, trivial⟩)
          simp only [putD, Act.put, List.setIfInBounds_toArray, List.set_cons_zero, List.set_cons_succ] at hk
          exact hk
        refine rules_skip rfl ?_
        exact rules_nil
      case hrest =>
        intro x wq hx hS hP
        obtain ⟨x0, x1, x2, x3, x4, x5, rfl⟩ := len6 hx
        obtain rfl : x0 = .agg av := hP 0 (by decide) (by rfl)
        obtain rfl : x1 = .agg ((absT pos).map (Value.int .i64)).toArray := hP 1 (by decide) (by rfl)
        obtain rfl : x2 = .agg (pv.map (Value.int .i64)).toArray := hP 2 (by decide) (by rfl)
        obtain rfl : x3 = .agg #[.int .i64 (hiW d), .int .u64 (loW d)] := hP 3 (by decide) (by rfl)
        obtain ⟨g8, rfl, b8, l8⟩ : ∃ g, x4 = .pointer (some ⟨g, 0, none⟩) ∧ Box wq g #[.int .i64 0, .int .u64 0] 89 ∧ wo.heap.size ≤ g := hP 4 (by decide) (by rfl)
        have s0 := hS.1
        have s1 := hS.2.1
        have s2 := hS.2.2.1
        have sA := hS.2.2.2
        clear hP hx hS
        simp only [putD, Act.put, List.setIfInBounds_toArray, List.set_cons_zero, List.set_cons_succ]
        have z0 : wq.cell? ⟨g8, 0, none⟩ = some (.int .i64 0) := b8.cell 0
        have z1 : wq.cell? ⟨g8, 1, none⟩ = some (.int .u64 0) := b8.cell 1
        have z2 : wq.frozen? ⟨g8, 0, none⟩ = false := b8.free 0
        have z3 : wq.frozen? ⟨g8, 1, none⟩ = false := b8.free 1
        refine rest_loud (i := 5) (o := ⟨none, _, _, _, _, _⟩) (by kernel_rfl) rfl (fun K hK => ?_)
        go_simp
        refine hK.out _ _ ?_
        clear hK K
        try simp only [List.setIfInBounds_toArray, List.set_cons_zero, List.set_cons_succ]
        refine rest_done (by kernel_rfl) ?_ _
        obtain ⟨W6, hW6⟩ : ∃ V, V = (wq.setCell ⟨g8, 0, none⟩ (.int .i64 (hiW d))).setCell ⟨g8, 1, none⟩ (.int .u64 (loW d)) := ⟨_, rfl⟩
        have hs8 : s + 1 + 1 < g8 := by have h1 := R2.out.lt; omega
        have y8 : Box W6 g8 #[.int .i64 (hiW d), .int .u64 (loW d)] 89 := by rw [hW6]; exact (b8.set 0 _).set 1 _
        have y0 : Box W6 s av 61 := by rw [hW6]; exact (s0.out.far (by show s ≠ g8; omega) _).far (by show s ≠ g8; omega) _
        have y2 : Box W6 (s + 1 + 1) #[.int .i64 0, .int .u64 0] 89 := by rw [hW6]; exact (s2.out.far (by show s + 1 + 1 ≠ g8; omega) _).far (by show s + 1 + 1 ≠ g8; omega) _
        have yA : Adds wo W6 := by rw [hW6]; exact (sA.out.set l8 _).set l8 _
        rw [← hW6]
        have Y8 := Lib.hid y8
        have Y0 := Lib.hid y0
        have Y2 := Lib.hid y2
        have YA := Lib.hid (RA.out.trans yA)
        have HG8 := Lib.hid hs8
        clear hW6 z0 z1 z2 z3 b8 s0 s1 s2 sA y8 y0 y2 yA l8 hs8 R0 R1 R2 RA
        clear wq
        have HWD := Lib.hid (fun w => widen_any 999 w (by omega) (by omega))
        have HWT := Lib.hid (fun w => widen_any 1000 w (by omega) (by omega))
        have HPL := Lib.hid (fun w => plus_any d 999 w HDI.out.1 (by unfold InW; omega))
        have hd1 := HDI.out.2.1
        have hd2 := HDI.out.2.2
        have HOV := Lib.hid (fun w => over_any (d + 999) 1000 w (by unfold InW; omega) (by omega) (by omega) (by omega))
        obtain ⟨q, hq⟩ : ∃ q, q = (d + 999) / 1000 := ⟨_, rfl⟩
        obtain ⟨r, hr⟩ : ∃ r, r = (d + 999) % 1000 := ⟨_, rfl⟩
        rw [← hq, ← hr] at HOV
        have HQ := Lib.hid hq
        have HQB : Hid (InW q) := Lib.hid (by unfold InW; omega)
        obtain ⟨d9, hd9⟩ : ∃ d9, d9 = d + 999 := ⟨_, rfl⟩
        rw [← hd9] at HPL HOV
        clear hd1 hd2 hq hr hd9
        unfold wideV at *
        go_wp2
        go_upto_region 7 with fail
        go_cut [9, 10] from 28 to 35 (fun s9 s10 wc => ∃ g9 g10, s9 = .pointer (some ⟨g9, 0, none⟩) ∧ s10 = .pointer (some ⟨g10, 0, none⟩) ∧ Hid (Box wc g9 #[.int .i64 (hiW q), .int .u64 (loW q)] 89) ∧ Hid (Adds W6 wc))
        case first =>
          refine wp_region_rulesE (fun i => i == 10 || i == 11) (fun i => i == 7) (fun wq => Hid (Box wq g8 #[.int .i64 (hiW d), .int .u64 (loW d)] 89) ∧ Hid (Adds W6 wq)) Adds (fun i v wq => match i with | 0 => v = .agg #[.int .i64 (hiW d), .int .u64 (loW d)] | 1 => v = .agg #[.int .i64 (hiW 999), .int .u64 (loW 999)] | 2 => v = .agg #[.int .i64 (hiW d9), .int .u64 (loW d9)] | 3 => v = .agg #[.int .i64 (hiW 1000), .int .u64 (loW 1000)] | 4 => v = .tuple #[.agg #[.int .i64 (hiW q), .int .u64 (loW q)], .agg #[.int .i64 (hiW r), .int .u64 (loW r)]] | 5 => v = .tuple #[.agg #[.int .i64 (hiW q), .int .u64 (loW q)], .agg #[.int .i64 (hiW r), .int .u64 (loW r)]] | 6 => v = .agg #[.int .i64 (hiW q), .int .u64 (loW q)] | 7 => v = .agg #[.int .i64 (hiW r), .int .u64 (loW r)] | 8 => ∃ g, v = .pointer (some ⟨g, 0, none⟩) ∧ Box wq g #[.int .i64 0, .int .u64 0] 89 ∧ W6.heap.size ≤ g | 9 => ∃ g, v = .pointer (some ⟨g, 0, none⟩) ∧ Box wq g #[.int .i64 0, .int .u64 0] 89 ∧ W6.heap.size ≤ g | _ => True) (fun i j u v => (i = 8 ∧ j = 9 ∨ i = 9 ∧ j = 8) → u ≠ v) (by kernel_rfl) (by kernel_rfl) (by kernel_rfl) (by kernel_rfl) 12 (by kernel_rfl) [some 29, some 30, some 31, some 32, some 33, some 28, some 34, some 35, some 9, some 10, none, none] (by kernel_rfl) ?hS ?hstab ?hrules ?hrest
          case hS => exact ⟨Lib.hid Y8.out.drew, Lib.hid (Adds.refl W6).drew⟩
          case hstab =>
            intro j v w1 w2 hst _ h
            match j, h with
            | 8, h => exact (by obtain ⟨g, h1, h2, h3⟩ := h; exact ⟨g, h1, h2.later hst, h3⟩)
            | 9, h => exact (by obtain ⟨g, h1, h2, h3⟩ := h; exact ⟨g, h1, h2.later hst, h3⟩)
            | 0, h => exact h
            | 1, h => exact h
            | 2, h => exact h
            | 3, h => exact h
            | 4, h => exact h
            | 5, h => exact h
            | 6, h => exact h
            | 7, h => exact h
            | 10, h => trivial
            | 11, h => trivial
            | _ + 12, h => trivial
          case hrules =>
            refine rules_cons (n := 12) (ds := [some 29, some 30, some 31, some 32, some 33, some 28, some 34, some 35, some 9, some 10, none, none]) (by kernel_rfl) (by kernel_rfl) [] rfl (by kernel_rfl) ?_ ?_
            · intro x wq hx hS hdep K hK
              obtain ⟨x0, x1, x2, x3, x4, x5, x6, x7, x8, x9, x10, x11, rfl⟩ := len12 hx
              have s0 := hS.1
              have sA := hS.2
              clear hdep hx hS
              simp only [putD, Act.put, List.setIfInBounds_toArray, List.set_cons_zero, List.set_cons_succ]
              have c0 : wq.cell? ⟨g8, 0, none⟩ = some (.int .i64 (hiW d)) := s0.out.cell 0
              have c1 : wq.cell? ⟨g8, 1, none⟩ = some (.int .u64 (loW d)) := s0.out.cell 1
              go_simp
              have hk := hK.out (.agg #[.int .i64 (hiW d), .int .u64 (loW d)]) _ (Adds.refl wq) ⟨s0, sA⟩ rfl (fun j u _ _ => ⟨fun h => absurd h (by omega), fun h => absurd h (by omega)⟩)
              simp only [putD, Act.put, List.setIfInBounds_toArray, List.set_cons_zero, List.set_cons_succ] at hk
              exact hk
            refine rules_cons (n := 12) (ds := [some 29, some 30, some 31, some 32, some 33, some 28, some 34, some 35, some 9, some 10, none, none]) (by kernel_rfl) (by kernel_rfl) [] rfl (by kernel_rfl) ?_ ?_
            · intro x wq hx hS hdep K hK
              obtain ⟨x0, x1, x2, x3, x4, x5, x6, x7, x8, x9, x10, x11, rfl⟩ := len12 hx
              have s0 := hS.1
              have sA := hS.2
              clear hdep hx hS
              simp only [putD, Act.put, List.setIfInBounds_toArray, List.set_cons_zero, List.set_cons_succ]
              go_simp
              go_at_call 40
              refine (HWD.out _).mono ?_
              rintro e w1 ⟨rfl, ha⟩
              have hk := hK.out (.agg #[.int .i64 (hiW 999), .int .u64 (loW 999)]) _ ha ⟨Lib.hid (s0.out.later ha), Lib.hid (sA.out.trans ha)⟩ rfl (fun j u _ _ => ⟨fun h => absurd h (by omega), fun h => absurd h (by omega)⟩)
              simp only [putD, Act.put, List.setIfInBounds_toArray, List.set_cons_zero, List.set_cons_succ] at hk
              exact hk
            refine rules_cons (n := 12) (ds := [some 29, some 30, some 31, some 32, some 33, some 28, some 34, some 35, some 9, some 10, none, none]) (by kernel_rfl) (by kernel_rfl) [0, 1] rfl (by kernel_rfl) ?_ ?_
            · intro x wq hx hS hdep K hK
              obtain ⟨x0, x1, x2, x3, x4, x5, x6, x7, x8, x9, x10, x11, rfl⟩ := len12 hx
              obtain rfl : x0 = .agg #[.int .i64 (hiW d), .int .u64 (loW d)] := hdep 0 (by simp)
              obtain rfl : x1 = .agg #[.int .i64 (hiW 999), .int .u64 (loW 999)] := hdep 1 (by simp)
              have s0 := hS.1
              have sA := hS.2
              clear hdep hx hS
              simp only [putD, Act.put, List.setIfInBounds_toArray, List.set_cons_zero, List.set_cons_succ]
              go_simp
              go_at_call 41
              refine (HPL.out _).mono ?_
              rintro e w1 ⟨rfl, ha⟩
              have hk := hK.out (.agg #[.int .i64 (hiW d9), .int .u64 (loW d9)]) _ ha ⟨Lib.hid (s0.out.later ha), Lib.hid (sA.out.trans ha)⟩ rfl (fun j u _ _ => ⟨fun h => absurd h (by omega), fun h => absurd h (by omega)⟩)
              simp only [putD, Act.put, List.setIfInBounds_toArray, List.set_cons_zero, List.set_cons_succ] at hk
              exact hk
            refine rules_cons (n := 12) (ds := [some 29, some 30, some 31, some 32, some 33, some 28, some 34, some 35, some 9, some 10, none, none]) (by kernel_rfl) (by kernel_rfl) [] rfl (by kernel_rfl) ?_ ?_
            · intro x wq hx hS hdep K hK
              obtain ⟨x0, x1, x2, x3, x4, x5, x6, x7, x8, x9, x10, x11, rfl⟩ := len12 hx
              have s0 := hS.1
              have sA := hS.2
              clear hdep hx hS
              simp only [putD, Act.put, List.setIfInBounds_toArray, List.set_cons_zero, List.set_cons_succ]
              go_simp
              go_at_call 40
              refine (HWT.out _).mono ?_
              rintro e w1 ⟨rfl, ha⟩
              have hk := hK.out (.agg #[.int .i64 (hiW 1000), .int .u64 (loW 1000)]) _ ha ⟨Lib.hid (s0.out.later ha), Lib.hid (sA.out.trans ha)⟩ rfl (fun j u _ _ => ⟨fun h => absurd h (by omega), fun h => absurd h (by omega)⟩)
              simp only [putD, Act.put, List.setIfInBounds_toArray, List.set_cons_zero, List.set_cons_succ] at hk
              exact hk
            refine rules_cons (n := 12) (ds := [some 29, some 30, some 31, some 32, some 33, some 28, some 34, some 35, some 9, some 10, none, none]) (by kernel_rfl) (by kernel_rfl) [2, 3] rfl (by kernel_rfl) ?_ ?_
            · intro x wq hx hS hdep K hK
              obtain ⟨x0, x1, x2, x3, x4, x5, x6, x7, x8, x9, x10, x11, rfl⟩ := len12 hx
              obtain rfl : x2 = .agg #[.int .i64 (hiW d9), .int .u64 (loW d9)] := hdep 2 (by simp)
              obtain rfl : x3 = .agg #[.int .i64 (hiW 1000), .int .u64 (loW 1000)] := hdep 3 (by simp)
              have s0 := hS.1
              have sA := hS.2
              clear hdep hx hS
              simp only [putD, Act.put, List.setIfInBounds_toArray, List.set_cons_zero, List.set_cons_succ]
              go_simp
              go_at_call 56
              refine (HOV.out _).mono ?_
              rintro e w1 ⟨rfl, ha⟩
              have hk := hK.out (.tuple #[.agg #[.int .i64 (hiW q), .int .u64 (loW q)], .agg #[.int .i64 (hiW r), .int .u64 (loW r)]]) _ ha ⟨Lib.hid (s0.out.later ha), Lib.hid (sA.out.trans ha)⟩ rfl (fun j u _ _ => ⟨fun h => absurd h (by omega), fun h => absurd h (by omega)⟩)
              simp only [putD, Act.put, List.setIfInBounds_toArray, List.set_cons_zero, List.set_cons_succ] at hk
              exact hk
            refine rules_cons (n := 12) (ds := [some 29, some 30, some 31, some 32, some 33, some 28, some 34, some 35, some 9, some 10, none, none]) (by kernel_rfl) (by kernel_rfl) [4] rfl (by kernel_rfl) ?_ ?_
            · intro x wq hx hS hdep K hK
              obtain ⟨x0, x1, x2, x3, x4, x5, x6, x7, x8, x9, x10, x11, rfl⟩ := len12 hx
              obtain rfl : x4 = .tuple #[.agg #[.int .i64 (hiW q), .int .u64 (loW q)], .agg #[.int .i64 (hiW r), .int .u64 (loW r)]] := hdep 4 (by simp)
              have s0 := hS.1
              have sA := hS.2
              clear hdep hx hS
              simp only [putD, Act.put, List.setIfInBounds_toArray, List.set_cons_zero, List.set_cons_succ]
              go_simp
              have hk := hK.out (.tuple #[.agg #[.int .i64 (hiW q), .int .u64 (loW q)], .agg #[.int .i64 (hiW r), .int .u64 (loW r)]]) _ (Adds.refl wq) ⟨s0, sA⟩ rfl (fun j u _ _ => ⟨fun h => absurd h (by omega), fun h => absurd h (by omega)⟩)
              simp only [putD, Act.put, List.setIfInBounds_toArray, List.set_cons_zero, List.set_cons_succ] at hk
              exact hk
            refine rules_cons (n := 12) (ds := [some 29, some 30, some 31, some 32, some 33, some 28, some 34, some 35, some 9, some 10, none, none]) (by kernel_rfl) (by kernel_rfl) [5] rfl (by kernel_rfl) ?_ ?_
            · intro x wq hx hS hdep K hK
              obtain ⟨x0, x1, x2, x3, x4, x5, x6, x7, x8, x9, x10, x11, rfl⟩ := len12 hx
              obtain rfl : x5 = .tuple #[.agg #[.int .i64 (hiW q), .int .u64 (loW q)], .agg #[.int .i64 (hiW r), .int .u64 (loW r)]] := hdep 5 (by simp)
              have s0 := hS.1
              have sA := hS.2
              clear hdep hx hS
              simp only [putD, Act.put, List.setIfInBounds_toArray, List.set_cons_zero, List.set_cons_succ]
              go_simp
              have hk := hK.out (.agg #[.int .i64 (hiW q), .int .u64 (loW q)]) _ (Adds.refl wq) ⟨s0, sA⟩ rfl (fun j u _ _ => ⟨fun h => absurd h (by omega), fun h => absurd h (by omega)⟩)
              simp only [putD, Act.put, List.setIfInBounds_toArray, List.set_cons_zero, List.set_cons_succ] at hk
              exact hk
            refine rules_cons (n := 12) (ds := [some 29, some 30, some 31, some 32, some 33, some 28, some 34, some 35, some 9, some 10, none, none]) (by kernel_rfl) (by kernel_rfl) [5] rfl (by kernel_rfl) ?_ ?_
            · intro x wq hx hS hdep K hK
              obtain ⟨x0, x1, x2, x3, x4, x5, x6, x7, x8, x9, x10, x11, rfl⟩ := len12 hx
              obtain rfl : x5 = .tuple #[.agg #[.int .i64 (hiW q), .int .u64 (loW q)], .agg #[.int .i64 (hiW r), .int .u64 (loW r)]] := hdep 5 (by simp)
              have s0 := hS.1
              have sA := hS.2
              clear hdep hx hS
              simp only [putD, Act.put, List.setIfInBounds_toArray, List.set_cons_zero, List.set_cons_succ]
              go_simp
              have hk := hK.out (.agg #[.int .i64 (hiW r), .int .u64 (loW r)]) _ (Adds.refl wq) ⟨s0, sA⟩ rfl (fun j u _ _ => ⟨fun h => absurd h (by omega), fun h => absurd h (by omega)⟩)
              simp only [putD, Act.put, List.setIfInBounds_toArray, List.set_cons_zero, List.set_cons_succ] at hk
              exact hk
            refine rules_cons (n := 12) (ds := [some 29, some 30, some 31, some 32, some 33, some 28, some 34, some 35, some 9, some 10, none, none]) (by kernel_rfl) (by kernel_rfl) [] rfl (by kernel_rfl) ?_ ?_
            · intro x wq hx hS hdep K hK
              obtain ⟨x0, x1, x2, x3, x4, x5, x6, x7, x8, x9, x10, x11, rfl⟩ := len12 hx
              have s0 := hS.1
              have sA := hS.2
              clear hdep hx hS
              simp only [putD, Act.put, List.setIfInBounds_toArray, List.set_cons_zero, List.set_cons_succ]
              go_simp
              have ha := (Adds.refl wq).alloc (.cells #[.int .i64 0, .int .u64 0] 89)
              have hk := hK.out (.pointer (some ⟨wq.heap.size, 0, none⟩)) _ ha ⟨Lib.hid (s0.out.later ha), Lib.hid (sA.out.trans ha)⟩ ⟨wq.heap.size, rfl, Box.new _ _ _, sA.out.size⟩ (fun j u _ hp => ⟨fun h => (by obtain rfl : j = 9 := (by omega); obtain ⟨g, rfl, hb, _⟩ := hp; have := hb.lt; first | (simp; done) | (simp; omega)), fun h => (by obtain rfl : j = 9 := (by omega); obtain ⟨g, rfl, hb, _⟩ := hp; have := hb.lt; first | (simp; done) | (simp; omega))⟩)
              simp only [putD, Act.put, List.setIfInBounds_toArray, List.set_cons_zero, List.set_cons_succ] at hk
              exact hk
            refine rules_cons (n := 12) (ds := [some 29, some 30, some 31, some 32, some 33, some 28, some 34, some 35, some 9, some 10, none, none]) (by kernel_rfl) (by kernel_rfl) [] rfl (by kernel_rfl) ?_ ?_
            · intro x wq hx hS hdep K hK
              obtain ⟨x0, x1, x2, x3, x4, x5, x6, x7, x8, x9, x10, x11, rfl⟩ := len12 hx
              have s0 := hS.1
              have sA := hS.2
              clear hdep hx hS
              simp only [putD, Act.put, List.setIfInBounds_toArray, List.set_cons_zero, List.set_cons_succ]
              go_simp
              have ha := (Adds.refl wq).alloc (.cells #[.int .i64 0, .int .u64 0] 89)
              have hk := hK.out (.pointer (some ⟨wq.heap.size, 0, none⟩)) _ ha ⟨Lib.hid (s0.out.later ha), Lib.hid (sA.out.trans ha)⟩ ⟨wq.heap.size, rfl, Box.new _ _ _, sA.out.size⟩ (fun j u _ hp => ⟨fun h => (by obtain rfl : j = 8 := (by omega); obtain ⟨g, rfl, hb, _⟩ := hp; have := hb.lt; first | (simp; done) | (simp; omega)), fun h => (by obtain rfl : j = 8 := (by omega); obtain ⟨g, rfl, hb, _⟩ := hp; have := hb.lt; first | (simp; done) | (simp; omega))⟩)
              simp only [putD, Act.put, List.setIfInBounds_toArray, List.set_cons_zero, List.set_cons_succ] at hk
              exact hk
            refine rules_skip rfl ?_
            refine rules_skip rfl ?_
            exact rules_nil
          case hrest =>
            intro x wq L hx hS hLs hLT hLF hP hR
            obtain ⟨x0, x1, x2, x3, x4, x5, x6, x7, x8, x9, x10, x11, rfl⟩ := len12 hx
            obtain ⟨l0, l1, l2, l3, l4, l5, l6, l7, l8, l9, l10, l11, rfl⟩ := arr12 hLs
            obtain rfl : l0 = true := hLT 0 (by decide) rfl rfl
            obtain rfl : l1 = true := hLT 1 (by decide) rfl rfl
            obtain rfl : l2 = true := hLT 2 (by decide) rfl rfl
            obtain rfl : l3 = true := hLT 3 (by decide) rfl rfl
            obtain rfl : l4 = true := hLT 4 (by decide) rfl rfl
            obtain rfl : l5 = true := hLT 5 (by decide) rfl rfl
            obtain rfl : l6 = true := hLT 6 (by decide) rfl rfl
            obtain rfl : l8 = true := hLT 8 (by decide) rfl rfl
            obtain rfl : l9 = true := hLT 9 (by decide) rfl rfl
            obtain rfl : l10 = false := by cases hq : l10 with | false => rfl | true => (subst hq; exact absurd (hLF 10 rfl) (by decide))
            obtain rfl : l11 = false := by cases hq : l11 with | false => rfl | true => (subst hq; exact absurd (hLF 11 rfl) (by decide))
            obtain rfl : x0 = .agg #[.int .i64 (hiW d), .int .u64 (loW d)] := hP 0 rfl
            obtain rfl : x1 = .agg #[.int .i64 (hiW 999), .int .u64 (loW 999)] := hP 1 rfl
            obtain rfl : x2 = .agg #[.int .i64 (hiW d9), .int .u64 (loW d9)] := hP 2 rfl
            obtain rfl : x3 = .agg #[.int .i64 (hiW 1000), .int .u64 (loW 1000)] := hP 3 rfl
            obtain rfl : x4 = .tuple #[.agg #[.int .i64 (hiW q), .int .u64 (loW q)], .agg #[.int .i64 (hiW r), .int .u64 (loW r)]] := hP 4 rfl
            obtain rfl : x5 = .tuple #[.agg #[.int .i64 (hiW q), .int .u64 (loW q)], .agg #[.int .i64 (hiW r), .int .u64 (loW r)]] := hP 5 rfl
            obtain rfl : x6 = .agg #[.int .i64 (hiW q), .int .u64 (loW q)] := hP 6 rfl
            obtain ⟨g9, rfl, b9, l9⟩ : ∃ g, x8 = .pointer (some ⟨g, 0, none⟩) ∧ Box wq g #[.int .i64 0, .int .u64 0] 89 ∧ W6.heap.size ≤ g := hP 8 rfl
            obtain ⟨g10, rfl, b10, l10⟩ : ∃ g, x9 = .pointer (some ⟨g, 0, none⟩) ∧ Box wq g #[.int .i64 0, .int .u64 0] 89 ∧ W6.heap.size ≤ g := hP 9 rfl
            have s0 := hS.1
            have sA := hS.2
            clear hx hS hLs hLT hLF
            have hne : g9 ≠ g10 := fun e => hR 8 9 (by decide) rfl rfl (Or.inl ⟨rfl, rfl⟩) (by subst e; rfl)
            have z0 : wq.cell? ⟨g9, 0, none⟩ = some (.int .i64 0) := b9.cell 0
            have z1 : wq.cell? ⟨g9, 1, none⟩ = some (.int .u64 0) := b9.cell 1
            have z2 : wq.frozen? ⟨g9, 0, none⟩ = false := b9.free 0
            have z3 : wq.frozen? ⟨g9, 1, none⟩ = false := b9.free 1
            have z4 : wq.cell? ⟨g10, 0, none⟩ = some (.int .i64 0) := b10.cell 0
            have z5 : wq.cell? ⟨g10, 1, none⟩ = some (.int .u64 0) := b10.cell 1
            have z6 : wq.frozen? ⟨g10, 0, none⟩ = false := b10.free 0
            have z7 : wq.frozen? ⟨g10, 1, none⟩ = false := b10.free 1
            cases l7 with
            | true =>
              obtain rfl : x7 = .agg #[.int .i64 (hiW r), .int .u64 (loW r)] := hP 7 rfl
              clear hP hR
              simp only [putD, Act.put, List.setIfInBounds_toArray, List.set_cons_zero, List.set_cons_succ]
              rw [show 12 - cntN #[true, true, true, true, true, true, true, true, true, true, false, false] = 2 by kernel_rfl]
              refine rest_loud (i := 10) (o := ⟨none, _, _, _, _, _⟩) (by kernel_rfl) rfl (fun K hK => ?_)
              go_simp
              refine hK.out _ _ ?_
              clear hK K
              try simp only [List.setIfInBounds_toArray, List.set_cons_zero, List.set_cons_succ]
              refine rest_loud (i := 11) (o := ⟨none, _, _, _, _, _⟩) (by kernel_rfl) rfl (fun K hK => ?_)
              go_simp
              refine hK.out _ _ ?_
              clear hK K
              try simp only [List.setIfInBounds_toArray, List.set_cons_zero, List.set_cons_succ]
              refine rest_done (by kernel_rfl) ?_ _
              go_wp2
              go_meet
              refine ⟨g9, g10, rfl, rfl, Lib.hid ?_, Lib.hid ?_⟩
              · first
                  | exact (((b9.set 0 _).set 1 _).far (by show g9 ≠ g10; exact hne) _).far (by show g9 ≠ g10; exact hne) _
              · exact (((sA.out.set l9 _).set l9 _).set l10 _).set l10 _
            | false =>
              clear hP hR
              simp only [putD, Act.put, List.setIfInBounds_toArray, List.set_cons_zero, List.set_cons_succ]
              rw [show 12 - cntN #[true, true, true, true, true, true, true, false, true, true, false, false] = 3 by kernel_rfl]
              refine rest_two (i := 7) (j := 10) (o := ⟨some 35, _, _, _, _, _⟩) (o2 := ⟨none, _, _, _, _, _⟩) (by kernel_rfl) rfl rfl (fun K hK => ?_) (fun K hK => ?_)
              · go_simp
                refine hK.out _ _ ?_
                clear hK K
                try simp only [List.setIfInBounds_toArray, List.set_cons_zero, List.set_cons_succ]
                refine rest_loud (i := 10) (o := ⟨none, _, _, _, _, _⟩) (by kernel_rfl) rfl (fun K hK => ?_)
                go_simp
                refine hK.out _ _ ?_
                clear hK K
                try simp only [List.setIfInBounds_toArray, List.set_cons_zero, List.set_cons_succ]
                refine rest_loud (i := 11) (o := ⟨none, _, _, _, _, _⟩) (by kernel_rfl) rfl (fun K hK => ?_)
                go_simp
                refine hK.out _ _ ?_
                clear hK K
                try simp only [List.setIfInBounds_toArray, List.set_cons_zero, List.set_cons_succ]
                refine rest_done (by kernel_rfl) ?_ _
                go_wp2
                go_meet
                refine ⟨g9, g10, rfl, rfl, Lib.hid ?_, Lib.hid ?_⟩
                · first
                    | exact (((b9.set 0 _).set 1 _).far (by show g9 ≠ g10; exact hne) _).far (by show g9 ≠ g10; exact hne) _
                · exact (((sA.out.set l9 _).set l9 _).set l10 _).set l10 _
              · go_simp
                refine hK.out _ _ ?_
                clear hK K
                try simp only [List.setIfInBounds_toArray, List.set_cons_zero, List.set_cons_succ]
                refine rest_loud (i := 7) (o := ⟨some 35, _, _, _, _, _⟩) (by kernel_rfl) rfl (fun K hK => ?_)
                go_simp
                refine hK.out _ _ ?_
                clear hK K
                try simp only [List.setIfInBounds_toArray, List.set_cons_zero, List.set_cons_succ]
                refine rest_loud (i := 11) (o := ⟨none, _, _, _, _, _⟩) (by kernel_rfl) rfl (fun K hK => ?_)
                go_simp
                refine hK.out _ _ ?_
                clear hK K
                try simp only [List.setIfInBounds_toArray, List.set_cons_zero, List.set_cons_succ]
                refine rest_done (by kernel_rfl) ?_ _
                go_wp2
                go_meet
                refine ⟨g9, g10, rfl, rfl, Lib.hid ?_, Lib.hid ?_⟩
                · first
                    | exact (((b9.set 0 _).set 1 _).far (by show g9 ≠ g10; exact hne) _).far (by show g9 ≠ g10; exact hne) _
                · exact (((sA.out.set l9 _).set l9 _).set l10 _).set l10 _
        case rest =>
          obtain ⟨g9, g10, rfl, rfl, B9, A9⟩ := hcut
          have HLS := Lib.hid (fun (W : World) (hW : Adds w W) => losses_any b cm pm h.moves pos W (keep_cell hW H14.out) (HM.out.later hW) HC.out.few HC.out.moves HL.out (fun y hy => by have := HP.out y hy; omega))
          obtain ⟨G, hG⟩ : ∃ G, G = greatT 0 (lossesT h.moves pos) := ⟨_, rfl⟩
          have hgb := great_bd (l := lossesT h.moves pos) (B := 59421121885698253195157962752) (by omega) (fun y hy => by
            obtain ⟨mm, hmm, rfl⟩ := List.mem_map.1 hy
            have h1 := dot_bd (a := 1152921504606846976) (b := 4294967296) (by omega) (by omega) pos mm HP.out (HC.out.moves mm hmm).2
            rw [HL.out] at h1
            omega)
          rw [← hG] at hgb
          have HGR : Hid (∀ (g c : Nat) (W : World), RowW W 0 (.slice (some ⟨g, 0, none⟩) h.moves.length c) (lossesT h.moves pos) → Calls Try.prog 57 #[.agg #[.int .i64 0, .int .u64 0], .slice (some ⟨g, 0, none⟩) h.moves.length c] W fun e w' => e = .returned (.agg #[.int .i64 (hiW G), .int .u64 (loW G)]) ∧ Adds W w') := Lib.hid (fun g c W hr => by
            have := greatest_any 0 0 c (some ⟨g, 0, none⟩) (lossesT h.moves pos) W
            rw [losses_len, ← hG] at this
            exact this hr (by have := HC.out.few; omega))
          have HPG := Lib.hid (fun w => plus_any q G w HQB.out (by unfold InW; omega))
          obtain ⟨mg, hmg⟩ : ∃ mg, mg = q + G := ⟨_, rfl⟩
          rw [← hmg] at HPG
          have HMG : Hid (mg = marginT h.moves rate pos prices) := Lib.hid (by rw [hmg, HQ.out, hG, HD.out, HPV.out]; rfl)
          unfold wideV monthV at *
          rw [← HAV.out] at HLS
          have YS := Lib.hid (Y0.out.later A9.out)
          have YR := Lib.hid (Y2.out.later A9.out)
          have YW := Lib.hid (YA.out.trans A9.out)
          clear hG hgb hmg HWD HWT HPL HOV HSZ HTM
          go_upto_region 8 with fail
          refine wp_region_rules (fun i => i == 7) (fun wq => Hid (Box wq g9 #[.int .i64 (hiW q), .int .u64 (loW q)] 89) ∧ Hid (Box wq s av 61) ∧ Hid (Box wq (s + 1 + 1) #[.int .i64 0, .int .u64 0] 89) ∧ Hid (Adds w wq)) Adds (fun i v wq => match i with | 0 => v = .agg #[.int .i64 (hiW q), .int .u64 (loW q)] | 1 => v = .agg #[.int .i64 0, .int .u64 0] | 2 => v = .pointer (some ⟨b, 0, none⟩) | 3 => v = .agg av | 4 => ∃ g c, v = .slice (some ⟨g, 0, none⟩) h.moves.length c ∧ RowW wq 0 (.slice (some ⟨g, 0, none⟩) h.moves.length c) (lossesT h.moves pos) | 5 => v = .agg #[.int .i64 (hiW G), .int .u64 (loW G)] | 6 => v = .agg #[.int .i64 (hiW mg), .int .u64 (loW mg)] | _ => True) (by kernel_rfl) (by kernel_rfl) (by kernel_rfl) (by kernel_rfl) 8 (by kernel_rfl) [some 36, some 37, some 38, some 39, some 40, some 41, some 42, none] (by kernel_rfl) 1 #[true, true, true, true, true, true, true, false] (by kernel_rfl) (by kernel_rfl) ?hS ?hstab ?hrules ?hrest
          case hS => exact ⟨Lib.hid B9.out.drew, Lib.hid YS.out.drew, Lib.hid YR.out.drew, Lib.hid YW.out.drew⟩
          case hstab =>
            intro j v w1 w2 hst _ h
            match j, h with
            | 4, h => exact (by obtain ⟨g, c, h1, h2⟩ := h; exact ⟨g, c, h1, own_later h2 hst⟩)
            | 0, h => exact h
            | 1, h => exact h
            | 2, h => exact h
            | 3, h => exact h
            | 5, h => exact h
            | 6, h => exact h
            | 7, h => trivial
            | _ + 8, h => trivial
          case hrules =>
            refine rules_cons (n := 8) (ds := [some 36, some 37, some 38, some 39, some 40, some 41, some 42, none]) (by kernel_rfl) (by kernel_rfl) [] rfl (by kernel_rfl) ?_ ?_
            · intro x wq hx hS hdep K hK
              obtain ⟨x0, x1, x2, x3, x4, x5, x6, x7, rfl⟩ := len8 hx
              have s0 := hS.1
              have s1 := hS.2.1
              have s2 := hS.2.2.1
              have sA := hS.2.2.2
              clear hdep hx hS
              simp only [putD, Act.put, List.setIfInBounds_toArray, List.set_cons_zero, List.set_cons_succ]
              have c0 : wq.cell? ⟨g9, 0, none⟩ = some (.int .i64 (hiW q)) := s0.out.cell 0
              have c1 : wq.cell? ⟨g9, 1, none⟩ = some (.int .u64 (loW q)) := s0.out.cell 1
              go_simp
              have hk := hK.out (.agg #[.int .i64 (hiW q), .int .u64 (loW q)]) _ (Adds.refl wq) ⟨s0, s1, s2, sA⟩ rfl (fun _ _ _ _ => ⟨trivial, trivial⟩)
              simp only [putD, Act.put, List.setIfInBounds_toArray, List.set_cons_zero, List.set_cons_succ] at hk
              exact hk
            refine rules_cons (n := 8) (ds := [some 36, some 37, some 38, some 39, some 40, some 41, some 42, none]) (by kernel_rfl) (by kernel_rfl) [] rfl (by kernel_rfl) ?_ ?_
            · intro x wq hx hS hdep K hK
              obtain ⟨x0, x1, x2, x3, x4, x5, x6, x7, rfl⟩ := len8 hx
              have s0 := hS.1
              have s1 := hS.2.1
              have s2 := hS.2.2.1
              have sA := hS.2.2.2
              clear hdep hx hS
              simp only [putD, Act.put, List.setIfInBounds_toArray, List.set_cons_zero, List.set_cons_succ]
              go_simp
              have hk := hK.out (.agg #[.int .i64 0, .int .u64 0]) _ (Adds.refl wq) ⟨s0, s1, s2, sA⟩ rfl (fun _ _ _ _ => ⟨trivial, trivial⟩)
              simp only [putD, Act.put, List.setIfInBounds_toArray, List.set_cons_zero, List.set_cons_succ] at hk
              exact hk
            refine rules_cons (n := 8) (ds := [some 36, some 37, some 38, some 39, some 40, some 41, some 42, none]) (by kernel_rfl) (by kernel_rfl) [] rfl (by kernel_rfl) ?_ ?_
            · intro x wq hx hS hdep K hK
              obtain ⟨x0, x1, x2, x3, x4, x5, x6, x7, rfl⟩ := len8 hx
              have s0 := hS.1
              have s1 := hS.2.1
              have s2 := hS.2.2.1
              have sA := hS.2.2.2
              clear hdep hx hS
              simp only [putD, Act.put, List.setIfInBounds_toArray, List.set_cons_zero, List.set_cons_succ]
              go_simp
              have hk := hK.out (.pointer (some ⟨b, 0, none⟩)) _ (Adds.refl wq) ⟨s0, s1, s2, sA⟩ rfl (fun _ _ _ _ => ⟨trivial, trivial⟩)
              simp only [putD, Act.put, List.setIfInBounds_toArray, List.set_cons_zero, List.set_cons_succ] at hk
              exact hk
            refine rules_cons (n := 8) (ds := [some 36, some 37, some 38, some 39, some 40, some 41, some 42, none]) (by kernel_rfl) (by kernel_rfl) [] rfl (by kernel_rfl) ?_ ?_
            · intro x wq hx hS hdep K hK
              obtain ⟨x0, x1, x2, x3, x4, x5, x6, x7, rfl⟩ := len8 hx
              have s0 := hS.1
              have s1 := hS.2.1
              have s2 := hS.2.2.1
              have sA := hS.2.2.2
              clear hdep hx hS
              simp only [putD, Act.put, List.setIfInBounds_toArray, List.set_cons_zero, List.set_cons_succ]
              refine wp_load_row 61 _ rfl s rfl 61 av (0, 0) _ s1.out Try.underlying61 rfl (by rw [info_month]; rw [HAV.out]; simp [HL.out]) ?_
              have hk := hK.out (.agg av) _ (Adds.refl wq) ⟨s0, s1, s2, sA⟩ rfl (fun _ _ _ _ => ⟨trivial, trivial⟩)
              simp only [putD, Act.put, List.setIfInBounds_toArray, List.set_cons_zero, List.set_cons_succ] at hk
              exact hk
            refine rules_cons (n := 8) (ds := [some 36, some 37, some 38, some 39, some 40, some 41, some 42, none]) (by kernel_rfl) (by kernel_rfl) [2, 3] rfl (by kernel_rfl) ?_ ?_
            · intro x wq hx hS hdep K hK
              obtain ⟨x0, x1, x2, x3, x4, x5, x6, x7, rfl⟩ := len8 hx
              obtain rfl : x2 = .pointer (some ⟨b, 0, none⟩) := hdep 2 (by simp)
              obtain rfl : x3 = .agg av := hdep 3 (by simp)
              have s0 := hS.1
              have s1 := hS.2.1
              have s2 := hS.2.2.1
              have sA := hS.2.2.2
              clear hdep hx hS
              simp only [putD, Act.put, List.setIfInBounds_toArray, List.set_cons_zero, List.set_cons_succ]
              go_simp
              go_at_call 58
              refine (HLS.out _ sA.out).mono ?_
              rintro e w1 ⟨g, c, rfl, hr, ha⟩
              have hk := hK.out (.slice (some ⟨g, 0, none⟩) h.moves.length c) _ ha ⟨Lib.hid (s0.out.later ha), Lib.hid (s1.out.later ha), Lib.hid (s2.out.later ha), Lib.hid (sA.out.trans ha)⟩ ⟨g, c, rfl, own_base_le hr (Nat.zero_le _)⟩ (fun _ _ _ _ => ⟨trivial, trivial⟩)
              simp only [putD, Act.put, List.setIfInBounds_toArray, List.set_cons_zero, List.set_cons_succ] at hk
              exact hk
            refine rules_cons (n := 8) (ds := [some 36, some 37, some 38, some 39, some 40, some 41, some 42, none]) (by kernel_rfl) (by kernel_rfl) [1, 4] rfl (by kernel_rfl) ?_ ?_
            · intro x wq hx hS hdep K hK
              obtain ⟨x0, x1, x2, x3, x4, x5, x6, x7, rfl⟩ := len8 hx
              obtain rfl : x1 = .agg #[.int .i64 0, .int .u64 0] := hdep 1 (by simp)
              obtain ⟨g4, c4, rfl, r4⟩ : ∃ g c, x4 = .slice (some ⟨g, 0, none⟩) h.moves.length c ∧ RowW wq 0 (.slice (some ⟨g, 0, none⟩) h.moves.length c) (lossesT h.moves pos) := hdep 4 (by simp)
              have s0 := hS.1
              have s1 := hS.2.1
              have s2 := hS.2.2.1
              have sA := hS.2.2.2
              clear hdep hx hS
              simp only [putD, Act.put, List.setIfInBounds_toArray, List.set_cons_zero, List.set_cons_succ]
              go_simp
              go_at_call 57
              refine (HGR.out _ _ _ r4).mono ?_
              rintro e w1 ⟨rfl, ha⟩
              have hk := hK.out (.agg #[.int .i64 (hiW G), .int .u64 (loW G)]) _ ha ⟨Lib.hid (s0.out.later ha), Lib.hid (s1.out.later ha), Lib.hid (s2.out.later ha), Lib.hid (sA.out.trans ha)⟩ rfl (fun _ _ _ _ => ⟨trivial, trivial⟩)
              simp only [putD, Act.put, List.setIfInBounds_toArray, List.set_cons_zero, List.set_cons_succ] at hk
              exact hk
            refine rules_cons (n := 8) (ds := [some 36, some 37, some 38, some 39, some 40, some 41, some 42, none]) (by kernel_rfl) (by kernel_rfl) [0, 5] rfl (by kernel_rfl) ?_ ?_
            · intro x wq hx hS hdep K hK
              obtain ⟨x0, x1, x2, x3, x4, x5, x6, x7, rfl⟩ := len8 hx
              obtain rfl : x0 = .agg #[.int .i64 (hiW q), .int .u64 (loW q)] := hdep 0 (by simp)
              obtain rfl : x5 = .agg #[.int .i64 (hiW G), .int .u64 (loW G)] := hdep 5 (by simp)
              have s0 := hS.1
              have s1 := hS.2.1
              have s2 := hS.2.2.1
              have sA := hS.2.2.2
              clear hdep hx hS
              simp only [putD, Act.put, List.setIfInBounds_toArray, List.set_cons_zero, List.set_cons_succ]
              go_simp
              go_at_call 41
              refine (HPG.out _).mono ?_
              rintro e w1 ⟨rfl, ha⟩
              have hk := hK.out (.agg #[.int .i64 (hiW mg), .int .u64 (loW mg)]) _ ha ⟨Lib.hid (s0.out.later ha), Lib.hid (s1.out.later ha), Lib.hid (s2.out.later ha), Lib.hid (sA.out.trans ha)⟩ rfl (fun _ _ _ _ => ⟨trivial, trivial⟩)
              simp only [putD, Act.put, List.setIfInBounds_toArray, List.set_cons_zero, List.set_cons_succ] at hk
              exact hk
            refine rules_skip rfl ?_
            exact rules_nil
          case hrest =>
            intro x wq hx hS hP
            obtain ⟨x0, x1, x2, x3, x4, x5, x6, x7, rfl⟩ := len8 hx
            obtain rfl : x0 = .agg #[.int .i64 (hiW q), .int .u64 (loW q)] := hP 0 (by decide) (by rfl)
            obtain rfl : x1 = .agg #[.int .i64 0, .int .u64 0] := hP 1 (by decide) (by rfl)
            obtain rfl : x2 = .pointer (some ⟨b, 0, none⟩) := hP 2 (by decide) (by rfl)
            obtain rfl : x3 = .agg av := hP 3 (by decide) (by rfl)
            obtain ⟨g4, c4, rfl, r4⟩ : ∃ g c, x4 = .slice (some ⟨g, 0, none⟩) h.moves.length c ∧ RowW wq 0 (.slice (some ⟨g, 0, none⟩) h.moves.length c) (lossesT h.moves pos) := hP 4 (by decide) (by rfl)
            obtain rfl : x5 = .agg #[.int .i64 (hiW G), .int .u64 (loW G)] := hP 5 (by decide) (by rfl)
            obtain rfl : x6 = .agg #[.int .i64 (hiW mg), .int .u64 (loW mg)] := hP 6 (by decide) (by rfl)
            have s0 := hS.1
            have s1 := hS.2.1
            have s2 := hS.2.2.1
            have sA := hS.2.2.2
            clear hP hx hS
            simp only [putD, Act.put, List.setIfInBounds_toArray, List.set_cons_zero, List.set_cons_succ]
            have z0 : wq.cell? ⟨s + 1 + 1, 0, none⟩ = some (.int .i64 0) := s2.out.cell 0
            have z1 : wq.cell? ⟨s + 1 + 1, 1, none⟩ = some (.int .u64 0) := s2.out.cell 1
            have z2 : wq.frozen? ⟨s + 1 + 1, 0, none⟩ = false := s2.out.free 0
            have z3 : wq.frozen? ⟨s + 1 + 1, 1, none⟩ = false := s2.out.free 1
            refine rest_loud (i := 7) (o := ⟨none, _, _, _, _, _⟩) (by kernel_rfl) rfl (fun K hK => ?_)
            go_simp
            refine hK.out _ _ ?_
            clear hK K
            try simp only [List.setIfInBounds_toArray, List.set_cons_zero, List.set_cons_succ]
            refine rest_done (by kernel_rfl) ?_ _
            go_wp2
            refine post_wide rfl rfl rfl ((s2.out.set 0 _).set 1 _) ⟨by rw [HMG.out], (sA.out.set (by have := HS.out; show _ ≤ s + 1 + 1; omega) _).set (by have := HS.out; show _ ≤ s + 1 + 1; omega) _⟩

end Go.Proofs.Ytmkpidipoadnbaa
