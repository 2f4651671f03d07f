/- missing: by how much an account would miss its margin at other prices. -/
import Derived.Test.YtmkpidipoadnbaaW11
namespace Go.Proofs.Ytmkpidipoadnbaa
open Go Go.RowKit Go.Sort

/-- What the margins read of a house. -/
structure HouseR (w : World) (b : Nat) (h : Hs) (pm : Option Addr) (cm : Nat) : Prop where
  m14 : w.cell? ⟨b, 14, none⟩ = some (.slice pm h.moves.length cm)
  r15 : w.cell? ⟨b, 15, none⟩ = some (.int .i64 h.rate)
  pr : w.rangeAt b 2 (h.prices.map (Value.int .i64))
  mv : CellsAt w pm (h.moves.flatMap encM)
theorem range_later {w w' : World} {b o : Nat} {cs : List Value} (h : w.rangeAt b o cs) (ha : Adds w w') : w'.rangeAt b o cs := fun j v hj => keep_cell ha (h j v hj)
theorem HouseR.later {w w' : World} {b : Nat} {h : Hs} {pm : Option Addr} {cm : Nat} (hr : HouseR w b h pm cm) (ha : Adds w w') : HouseR w' b h pm cm := ⟨keep_cell ha hr.m14, keep_cell ha hr.r15, range_later hr.pr ha, hr.mv.later ha⟩
theorem box_range {w : World} {b : Nat} {vs : Array Value} {t : TypeId} (h : Box w b vs t) {o : Nat} {cs : List Value} (hc : ∀ j v, cs[j]? = some v → vs[o + j]? = some v) : w.rangeAt b o cs := fun j v hj => by rw [h.cell]; exact hc j v hj

def subL (p q : List Int) : List Int := List.zipWith (· - ·) p q
def subK (p q : List Int) (k : Nat) : List Int := subL (p.take k) (q.take k) ++ List.replicate (12 - k) 0
theorem subL_len {p q : List Int} (hp : p.length = 12) (hq : q.length = 12) : (subL p q).length = 12 := by simp [subL, hp, hq]
theorem sub_step {p q : List Int} {k : Nat} {x y : Int} (hp : p[k]? = some x) (hq : q[k]? = some y) (hk : k < 12) : (subK p q k).set k (x - y) = subK p q (k + 1) ∧ (subK p q k)[k]? = some 0 ∧ (subK p q k).length = 12 := by
  obtain ⟨h1, e1⟩ := List.getElem?_eq_some_iff.1 hp
  obtain ⟨h2, e2⟩ := List.getElem?_eq_some_iff.1 hq
  have hl : (subL (p.take k) (q.take k)).length = k := by simp [subL]; omega
  unfold subK
  refine ⟨?_, ?_, ?_⟩
  · rw [List.take_succ_eq_append_getElem h1, List.take_succ_eq_append_getElem h2, e1, e2, show 12 - k = (12 - (k + 1)) + 1 by omega, List.replicate_succ, List.set_append_right _ _ (by omega), hl, Nat.sub_self]
    simp only [List.set_cons_zero]
    unfold subL
    rw [List.zipWith_append (by simp; omega)]
    simp
  · rw [List.getElem?_append_right (by omega), hl, Nat.sub_self, List.getElem?_replicate, if_pos (by omega)]
  · rw [List.length_append, hl, List.length_replicate]; omega

/-- By how much an account would miss its margin. -/
def missT (h : Hs) (a : Ac) (prices : List Int) : Int := marginT h.moves h.rate a.pos prices - (a.cash + dotT a.pos (subL prices h.prices))

/-- An account with numbers that can be reckoned with. -/
structure CalmA (a : Ac) : Prop where
  len : a.pos.length = 12
  few : Few 1152921504606846976 a.pos
  cash0 : -4611686018427387904 ≤ a.cash
  cash1 : a.cash ≤ 4611686018427387904
abbrev accV (a : Ac) : Value := .agg (encA a).toArray

theorem encA_cash (a : Ac) : (encA a).toArray[0]? = some (.int .i64 a.cash) := by simp [encA]
theorem encA_pos {a : Ac} (h : a.pos.length = 12) : ∀ j v, (a.pos.map (Value.int .i64))[j]? = some v → (encA a).toArray[2 + j]? = some v := fun j v hj => by
  have hj2 := (List.getElem?_eq_some_iff.1 hj).1
  rw [List.getElem?_toArray]
  unfold encA
  rw [show 2 + j = j + 1 + 1 by omega, List.getElem?_cons_succ, List.getElem?_cons_succ, encM_full h, List.getElem?_append_left hj2]
  exact hj
theorem margin_in {h : Hs} {pos prices : List Int} (hc : Calm h) (hl : pos.length = 12) (hp : Few 1152921504606846976 pos) (_hpl : prices.length = 12) (hpp : ∀ p ∈ prices, 0 ≤ p ∧ p ≤ 2000000) : 0 ≤ marginT h.moves h.rate pos prices ∧ marginT h.moves h.rate pos prices ≤ 118842243771396506390315925504 := by
  have h1 := great_bd (l := lossesT h.moves pos) (B := 59421121885698253195157962752) (by omega) (fun y hy => by
    obtain ⟨mm, hmm, rfl⟩ := List.mem_map.1 hy
    have h1 := dot_bd (a := 1152921504606846976) (b := 4294967296) (by omega) (by omega) pos mm hp (hc.moves mm hmm).2
    rw [hl] at h1
    omega)
  have hr : ∀ y ∈ ratesT h.rate prices, 0 ≤ y ∧ y ≤ 2000000000 := fun y hy => by
    obtain ⟨x, hx, rfl⟩ := List.mem_map.1 hy
    have hxb := hpp x hx
    have h0 : 0 ≤ x * h.rate := Int.mul_nonneg hxb.1 hc.rate0
    have h1 : x * h.rate ≤ 2000000 * h.rate := Int.mul_le_mul_of_nonneg_right hxb.2 hc.rate0
    have := hc.rate1
    omega
  have h2 := dot_bd (a := 1152921504606846976) (b := 4294967296) (by omega) (by omega) (absT pos) (ratesT h.rate prices) (fun y hy => by obtain ⟨x, hx, rfl⟩ := List.mem_map.1 hy; have := hp x hx; omega) (fun y hy => by have := hr y hy; omega)
  rw [abs_len, hl] at h2
  have h3 : 0 ≤ dotT (absT pos) (ratesT h.rate prices) := dot_nonneg (fun y hy => by obtain ⟨x, _, rfl⟩ := List.mem_map.1 hy; omega) (fun y hy => (hr y hy).1)
  unfold marginT spanT
  omega

set_option maxRecDepth 100000 in
set_option maxHeartbeats 8000000 in
theorem missing_any (b cm : Nat) (pm : Option Addr) (h : Hs) (a : Ac) (prices : List Int) (w : World) (hc : Calm h) (hR : HouseR w b h pm cm) (hca : CalmA a) (hpl : prices.length = 12) (hpp : ∀ p ∈ prices, 0 ≤ p ∧ p ≤ 2000000) :
    Calls Try.prog 53 #[.pointer (some ⟨b, 0, none⟩), accV a, monthV prices] w fun e w' => e = .returned (wideV (missT h a prices)) ∧ Adds w w' := by
  have HPP := Lib.hid hpp
  have HPL := Lib.hid hpl
  have HCA := Lib.hid hca
  have HC := Lib.hid hc
  have HR := Lib.hid hR
  have hlt := cell_lt hR.m14
  have HCH := Lib.hid hc.prices
  obtain ⟨c, hcc⟩ : ∃ c, c = a.cash := ⟨_, rfl⟩
  have hc0 := hca.cash0
  have hc1 := hca.cash1
  rw [← hcc] at hc0 hc1
  have HCC := Lib.hid hcc
  unfold monthV accV
  obtain ⟨av, hav⟩ : ∃ v, v = (encA a).toArray := ⟨_, rfl⟩
  obtain ⟨bv, hbv⟩ : ∃ v, v = (prices.map (Value.int .i64)).toArray := ⟨_, rfl⟩
  rw [← hav, ← hbv]
  have HAV := Lib.hid hav
  have HBV := Lib.hid hbv
  clear hc hR hca hpl hpp hav hbv hcc
  go_enter Try.func53, Try.ntmps53
  go_upto_region 3 with fail
  have k0 := (((Box.new w av 72).alloc (.cells bv 61)).alloc (.cells #[.int .i64 0, .int .u64 0] 89)).alloc (.cells #[.int .i64 0, .int .i64 0, .int .i64 0, .int .i64 0, .int .i64 0, .int .i64 0, .int .i64 0, .int .i64 0, .int .i64 0, .int .i64 0, .int .i64 0, .int .i64 0] 61)
  have k1 := ((Box.new (w.alloc (.cells av 72)) bv 61).alloc (.cells #[.int .i64 0, .int .u64 0] 89)).alloc (.cells #[.int .i64 0, .int .i64 0, .int .i64 0, .int .i64 0, .int .i64 0, .int .i64 0, .int .i64 0, .int .i64 0, .int .i64 0, .int .i64 0, .int .i64 0, .int .i64 0] 61)
  have k2 := (Box.new ((w.alloc (.cells av 72)).alloc (.cells bv 61)) #[.int .i64 0, .int .u64 0] 89).alloc (.cells #[.int .i64 0, .int .i64 0, .int .i64 0, .int .i64 0, .int .i64 0, .int .i64 0, .int .i64 0, .int .i64 0, .int .i64 0, .int .i64 0, .int .i64 0, .int .i64 0] 61)
  have k3 := Box.new (((w.alloc (.cells av 72)).alloc (.cells bv 61)).alloc (.cells #[.int .i64 0, .int .u64 0] 89)) #[.int .i64 0, .int .i64 0, .int .i64 0, .int .i64 0, .int .i64 0, .int .i64 0, .int .i64 0, .int .i64 0, .int .i64 0, .int .i64 0, .int .i64 0, .int .i64 0] 61
  have hA : Adds w ((((w.alloc (.cells av 72)).alloc (.cells bv 61)).alloc (.cells #[.int .i64 0, .int .u64 0] 89)).alloc (.cells #[.int .i64 0, .int .i64 0, .int .i64 0, .int .i64 0, .int .i64 0, .int .i64 0, .int .i64 0, .int .i64 0, .int .i64 0, .int .i64 0, .int .i64 0, .int .i64 0] 61)) := ((((Adds.refl w).alloc _).alloc _).alloc _).alloc _
  rw [World.size_alloc] at k1
  rw [World.size_alloc, World.size_alloc] at k2
  rw [World.size_alloc, World.size_alloc, World.size_alloc] at k3
  obtain ⟨W, hW⟩ : ∃ V, V = (((w.alloc (.cells av 72)).alloc (.cells bv 61)).alloc (.cells #[.int .i64 0, .int .u64 0] 89)).alloc (.cells #[.int .i64 0, .int .i64 0, .int .i64 0, .int .i64 0, .int .i64 0, .int .i64 0, .int .i64 0, .int .i64 0, .int .i64 0, .int .i64 0, .int .i64 0, .int .i64 0] 61) := ⟨_, rfl⟩
  rw [← hW] at k0 k1 k2 k3 hA ⊢
  obtain ⟨s, hs⟩ : ∃ s, s = w.heap.size := ⟨_, rfl⟩
  rw [← hs] at k0 k1 k2 k3 ⊢
  have HA := Lib.hid hA
  have K0 := Lib.hid k0
  have K1 := Lib.hid k1
  have K2 := Lib.hid k2
  have K3 := Lib.hid k3
  have HS := Lib.hid hs
  clear hW hs k0 k1 k2 k3 hA
  go_loopw [10] (fun v10 wr => ∃ k : Nat, k ≤ 12 ∧ v10 = .int .i64 k ∧ Hid (Box wr s av 72) ∧ Hid (Box wr (s + 1) bv 61) ∧ Hid (Box wr (s + 1 + 1) #[.int .i64 0, .int .u64 0] 89) ∧ Hid (Box wr (s + 1 + 1 + 1) ((subK prices h.prices k).map (Value.int .i64)).toArray 61) ∧ Hid (Adds w wr)) (fun v10 _ => 12 - (intOf v10).toNat)
  case atStart => exact ⟨0, by omega, rfl, K0, K1, K2, Lib.hid (by rw [show subK prices h.prices 0 = List.replicate 12 0 by simp [subK, subL]]; exact K3.out), HA⟩
  case round =>
    obtain ⟨k, hk, rfl, R0, R1, R2, R3, RA⟩ := hrel
    clear K0 K1 K2 K3 HA
    by_cases hlt2 : k < 12
    · have hlt3 : (k : Int) < 12 := by omega
      have hk0 : (0 : Int) ≤ (k : Int) := by omega
      obtain ⟨x, hx⟩ : ∃ x, prices[k]? = some x := ⟨_, List.getElem?_eq_getElem (by have := HPL.out; omega)⟩
      obtain ⟨y, hy⟩ : ∃ x, h.prices[k]? = some x := ⟨_, List.getElem?_eq_getElem (by have := HCH.out; omega)⟩
      obtain ⟨n1, n2, _⟩ := sub_step hx hy hlt2
      have HNX := Lib.hid n1
      have hxb := HPP.out x (List.mem_of_getElem? hx)
      have hyb := HC.out.price y (List.mem_of_getElem? hy)
      have hxb1 := hxb.1
      have hxb2 := hxb.2
      have hyb1 := hyb.1
      have hyb2 := hyb.2
      have d0 : wr.cell? ⟨s + 1, k, none⟩ = some (.int .i64 x) := month_box (l := prices) (by rw [← HBV.out]; exact R1.out) hx
      have d1 : wr.cell? ⟨b, 2 + k, none⟩ = some (.int .i64 y) := (HR.out.later RA.out).pr k _ (by rw [List.getElem?_map, hy]; rfl)
      have d2 : wr.cell? ⟨s + 1 + 1 + 1, k, none⟩ = some (.int .i64 0) := month_box R3.out n2
      have d3 : wr.frozen? ⟨s + 1 + 1 + 1, k, none⟩ = false := R3.out.free k
      have hne : s + 1 + 1 + 1 ≠ b := by have := HS.out; omega
      clear hx hy hxb hyb n1 n2
      go_upto_region 5 with fail
      go_region
      all_goals go_wp2
      exact ⟨⟨k + 1, by omega, by go_num, Lib.hid ((R0.out.far (by show s ≠ s + 1 + 1 + 1; omega) _).drew), Lib.hid ((R1.out.far (by show s + 1 ≠ s + 1 + 1 + 1; omega) _).drew), Lib.hid ((R2.out.far (by show s + 1 + 1 ≠ s + 1 + 1 + 1; omega) _).drew), Lib.hid (by rw [← HNX.out, ← set_ints]; exact (R3.out.set k _).drew), Lib.hid ((RA.out.set (by have := HS.out; show _ ≤ s + 1 + 1 + 1; omega) _).drew)⟩, by simp [intOf]; omega⟩
    · have hkk : k = 12 := by omega
      subst hkk
      have e1 : subK prices h.prices 12 = subL prices h.prices := by
        have := HPL.out
        have := HCH.out
        unfold subK
        rw [List.take_of_length_le (by omega), List.take_of_length_le (by omega), Nat.sub_self, List.replicate_zero, List.append_nil]
      rw [e1] at R3
      clear e1 hlt2
      obtain ⟨pv, hpv⟩ : ∃ v, v = subL prices h.prices := ⟨_, rfl⟩
      rw [← hpv] at R3
      have hpvl : pv.length = 12 := by rw [hpv]; exact subL_len HPL.out HCH.out
      have hpvf : Few 4294967296 pv := fun z hz => by
        rw [hpv] at hz
        obtain ⟨i, hi, rfl⟩ := List.getElem_of_mem hz
        have hi' : i < min prices.length h.prices.length := by rw [← List.length_zipWith (f := fun x y : Int => x - y)]; exact hi
        have i1 : i < prices.length := by omega
        have i2 : i < h.prices.length := by omega
        have h1 := HPP.out _ (List.getElem_mem i1)
        have h2 := HC.out.price _ (List.getElem_mem i2)
        simp only [subL, List.getElem_zipWith]
        omega
      have HTM := Lib.hid (fun w => times12_any a.pos pv w HCA.out.len hpvl (fun z hz => by have := HCA.out.few z hz; omega) hpvf)
      have hdb := dot_bd (a := 1152921504606846976) (b := 4294967296) (by omega) (by omega) a.pos pv HCA.out.few hpvf
      rw [HCA.out.len] at hdb
      have HWD := Lib.hid (fun w => widen_any c w (by omega) (by omega))
      obtain ⟨d, hd⟩ : ∃ d, d = dotT a.pos pv := ⟨_, rfl⟩
      rw [← hd] at HTM hdb
      have HPU := Lib.hid (fun w => plus_any c d w (by unfold InW; omega) (by unfold InW; omega))
      have hmb := margin_in HC.out HCA.out.len HCA.out.few HPL.out HPP.out
      have HMA := Lib.hid (fun (W : World) (hW : Adds w W) => margin_any b cm pm h a.pos prices W HC.out (HR.out.later hW).m14 (HR.out.later hW).r15 (HR.out.later hW).mv HCA.out.len HCA.out.few HPL.out HPP.out)
      obtain ⟨mg, hmg⟩ : ∃ mg, mg = marginT h.moves h.rate a.pos prices := ⟨_, rfl⟩
      rw [← hmg] at HMA hmb
      have HMN := Lib.hid (fun w => minus_any mg (c + d) w (by unfold InW; omega) (by unfold InW; omega))
      obtain ⟨cd, hcd⟩ : ∃ cd, cd = c + d := ⟨_, rfl⟩
      rw [← hcd] at HPU HMN
      have HRES : Hid (mg - cd = missT h a prices) := Lib.hid (by rw [hmg, hcd, hd, hpv, HCC.out]; rfl)
      obtain ⟨rs, hrs⟩ : ∃ rs, rs = mg - cd := ⟨_, rfl⟩
      rw [← hrs] at HMN HRES
      have HPVL := Lib.hid hpvl
      have RP := Lib.hid (box_range R0.out (o := 2) (cs := a.pos.map (Value.int .i64)) (by rw [HAV.out]; exact encA_pos HCA.out.len))
      have RC := Lib.hid (show wr.cell? ⟨s, 0, none⟩ = some (.int .i64 c) by rw [R0.out.cell, HAV.out, encA_cash, HCC.out])
      have HPS : Hid ((a.pos.map (Value.int .i64)).length = 12) := Lib.hid (by rw [List.length_map]; exact HCA.out.len)
      have HBS : Hid (bv.size = 12) := Lib.hid (by rw [HBV.out]; simp [HPL.out])
      unfold wideV monthV at *
      rw [← HBV.out] at HMA
      clear hdb hmb hpvl hpvf hpv hd hmg hcd hrs hc0 hc1
      obtain ⟨wo, rfl⟩ : ∃ wo : World, wo = wr := ⟨_, rfl⟩
      go_upto_region 7 with fail
      go_cut [9] from 26 to 33 (fun s9 wc => ∃ g9, s9 = .pointer (some ⟨g9, 0, none⟩) ∧ Hid (Box wc g9 #[.int .i64 (hiW cd), .int .u64 (loW cd)] 89) ∧ Hid (Adds wo wc))
      case first =>
        refine wp_region_rules (fun i => i == 9) (fun wq => Hid (wq.cell? ⟨s, 0, none⟩ = some (.int .i64 c)) ∧ Hid (wq.rangeAt s 2 (a.pos.map (Value.int .i64))) ∧ Hid (Box wq (s + 1 + 1 + 1) (pv.map (Value.int .i64)).toArray 61) ∧ Hid (Adds wo wq)) Adds (fun i v wq => match i with | 0 => v = .pointer (some ⟨s, 0, none⟩) | 1 => v = .int .i64 c | 2 => v = .agg #[.int .i64 (hiW c), .int .u64 (loW c)] | 3 => v = .pointer (some ⟨s, 2, none⟩) | 4 => v = .agg (a.pos.map (Value.int .i64)).toArray | 5 => v = .agg (pv.map (Value.int .i64)).toArray | 6 => v = .agg #[.int .i64 (hiW d), .int .u64 (loW d)] | 7 => v = .agg #[.int .i64 (hiW cd), .int .u64 (loW cd)] | 8 => ∃ g, v = .pointer (some ⟨g, 0, none⟩) ∧ Box wq g #[.int .i64 0, .int .u64 0] 89 ∧ wo.heap.size ≤ g | _ => True) (by kernel_rfl) (by kernel_rfl) (by kernel_rfl) (by kernel_rfl) 10 (by kernel_rfl) [some 26, some 27, some 28, some 29, some 30, some 31, some 32, some 33, some 9, none] (by kernel_rfl) 1 #[true, true, true, true, true, true, true, true, true, false] (by kernel_rfl) (by kernel_rfl) ?hS ?hstab ?hrules ?hrest
        case hS => exact ⟨Lib.hid RC.out, Lib.hid RP.out, Lib.hid R3.out.drew, Lib.hid (Adds.refl wo).drew⟩
        case hstab =>
          intro j v w1 w2 hst _ h
          match j, h with
          | 8, h => exact (by obtain ⟨g, h1, h2, h3⟩ := h; exact ⟨g, h1, h2.later hst, h3⟩)
          | 0, h => exact h
          | 1, h => exact h
          | 2, h => exact h
          | 3, h => exact h
          | 4, h => exact h
          | 5, h => exact h
          | 6, h => exact h
          | 7, h => exact h
          | 9, h => trivial
          | _ + 10, h => trivial
        case hrules =>
          refine rules_cons (n := 10) (ds := [some 26, some 27, some 28, some 29, some 30, some 31, some 32, some 33, some 9, none]) (by kernel_rfl) (by kernel_rfl) [] rfl (by kernel_rfl) ?_ ?_
          · intro x wq hx hS hdep K hK
            obtain ⟨x0, x1, x2, x3, x4, x5, x6, x7, x8, x9, rfl⟩ := len10 hx
            have s0 := hS.1
            have s1 := hS.2.1
            have s2 := hS.2.2.1
            have sA := hS.2.2.2
            clear hdep hx hS
            simp only [putD, Act.put, List.setIfInBounds_toArray, List.set_cons_zero, List.set_cons_succ]
            go_simp
            have hk := hK.out (.pointer (some ⟨s, 0, none⟩)) _ (Adds.refl wq) ⟨s0, s1, s2, sA⟩ rfl (fun _ _ _ _ => ⟨trivial, trivial⟩)
            simp only [putD, Act.put, List.setIfInBounds_toArray, List.set_cons_zero, List.set_cons_succ] at hk
            exact hk
          refine rules_cons (n := 10) (ds := [some 26, some 27, some 28, some 29, some 30, some 31, some 32, some 33, some 9, none]) (by kernel_rfl) (by kernel_rfl) [0] rfl (by kernel_rfl) ?_ ?_
          · intro x wq hx hS hdep K hK
            obtain ⟨x0, x1, x2, x3, x4, x5, x6, x7, x8, x9, rfl⟩ := len10 hx
            obtain rfl : x0 = .pointer (some ⟨s, 0, none⟩) := hdep 0 (by simp)
            have s0 := hS.1
            have s1 := hS.2.1
            have s2 := hS.2.2.1
            have sA := hS.2.2.2
            clear hdep hx hS
            simp only [putD, Act.put, List.setIfInBounds_toArray, List.set_cons_zero, List.set_cons_succ]
            have c0 := s0.out
            go_simp
            have hk := hK.out (.int .i64 c) _ (Adds.refl wq) ⟨s0, s1, s2, sA⟩ rfl (fun _ _ _ _ => ⟨trivial, trivial⟩)
            simp only [putD, Act.put, List.setIfInBounds_toArray, List.set_cons_zero, List.set_cons_succ] at hk
            exact hk
          refine rules_cons (n := 10) (ds := [some 26, some 27, some 28, some 29, some 30, some 31, some 32, some 33, some 9, none]) (by kernel_rfl) (by kernel_rfl) [1] rfl (by kernel_rfl) ?_ ?_
          · intro x wq hx hS hdep K hK
            obtain ⟨x0, x1, x2, x3, x4, x5, x6, x7, x8, x9, rfl⟩ := len10 hx
            obtain rfl : x1 = .int .i64 c := hdep 1 (by simp)
            have s0 := hS.1
            have s1 := hS.2.1
            have s2 := hS.2.2.1
            have sA := hS.2.2.2
            clear hdep hx hS
            simp only [putD, Act.put, List.setIfInBounds_toArray, List.set_cons_zero, List.set_cons_succ]
            go_simp
            go_at_call 40
            refine (HWD.out _).mono ?_
            rintro e w1 ⟨rfl, ha⟩
            have hk := hK.out (.agg #[.int .i64 (hiW c), .int .u64 (loW c)]) _ ha ⟨Lib.hid (keep_cell ha s0.out), Lib.hid (range_later s1.out ha), Lib.hid (s2.out.later ha), Lib.hid (sA.out.trans ha)⟩ rfl (fun _ _ _ _ => ⟨trivial, trivial⟩)
            simp only [putD, Act.put, List.setIfInBounds_toArray, List.set_cons_zero, List.set_cons_succ] at hk
            exact hk
          refine rules_cons (n := 10) (ds := [some 26, some 27, some 28, some 29, some 30, some 31, some 32, some 33, some 9, none]) (by kernel_rfl) (by kernel_rfl) [] rfl (by kernel_rfl) ?_ ?_
          · intro x wq hx hS hdep K hK
            obtain ⟨x0, x1, x2, x3, x4, x5, x6, x7, x8, x9, rfl⟩ := len10 hx
            have s0 := hS.1
            have s1 := hS.2.1
            have s2 := hS.2.2.1
            have sA := hS.2.2.2
            clear hdep hx hS
            simp only [putD, Act.put, List.setIfInBounds_toArray, List.set_cons_zero, List.set_cons_succ]
            go_simp
            have hk := hK.out (.pointer (some ⟨s, 2, none⟩)) _ (Adds.refl wq) ⟨s0, s1, s2, sA⟩ rfl (fun _ _ _ _ => ⟨trivial, trivial⟩)
            simp only [putD, Act.put, List.setIfInBounds_toArray, List.set_cons_zero, List.set_cons_succ] at hk
            exact hk
          refine rules_cons (n := 10) (ds := [some 26, some 27, some 28, some 29, some 30, some 31, some 32, some 33, some 9, none]) (by kernel_rfl) (by kernel_rfl) [3] rfl (by kernel_rfl) ?_ ?_
          · intro x wq hx hS hdep K hK
            obtain ⟨x0, x1, x2, x3, x4, x5, x6, x7, x8, x9, rfl⟩ := len10 hx
            obtain rfl : x3 = .pointer (some ⟨s, 2, none⟩) := hdep 3 (by simp)
            have s0 := hS.1
            have s1 := hS.2.1
            have s2 := hS.2.2.1
            have sA := hS.2.2.2
            clear hdep hx hS
            simp only [putD, Act.put, List.setIfInBounds_toArray, List.set_cons_zero, List.set_cons_succ]
            refine wp_load_mid 61 _ rfl s 2 rfl (a.pos.map (Value.int .i64)) _ s1.out Try.underlying61 rfl (by rw [info_month, HPS.out]) ?_
            have hk := hK.out (.agg (a.pos.map (Value.int .i64)).toArray) _ (Adds.refl wq) ⟨s0, s1, s2, sA⟩ rfl (fun _ _ _ _ => ⟨trivial, trivial⟩)
            simp only [putD, Act.put, List.setIfInBounds_toArray, List.set_cons_zero, List.set_cons_succ] at hk
            exact hk
          refine rules_cons (n := 10) (ds := [some 26, some 27, some 28, some 29, some 30, some 31, some 32, some 33, some 9, none]) (by kernel_rfl) (by kernel_rfl) [] rfl (by kernel_rfl) ?_ ?_
          · intro x wq hx hS hdep K hK
            obtain ⟨x0, x1, x2, x3, x4, x5, x6, x7, x8, x9, rfl⟩ := len10 hx
            have s0 := hS.1
            have s1 := hS.2.1
            have s2 := hS.2.2.1
            have sA := hS.2.2.2
            clear hdep hx hS
            simp only [putD, Act.put, List.setIfInBounds_toArray, List.set_cons_zero, List.set_cons_succ]
            refine wp_load_row 61 _ rfl (s + 1 + 1 + 1) rfl 61 (pv.map (Value.int .i64)).toArray (0, 0) _ s2.out Try.underlying61 rfl (by rw [info_month]; simp [HPVL.out]) ?_
            have hk := hK.out (.agg (pv.map (Value.int .i64)).toArray) _ (Adds.refl wq) ⟨s0, s1, s2, sA⟩ rfl (fun _ _ _ _ => ⟨trivial, trivial⟩)
            simp only [putD, Act.put, List.setIfInBounds_toArray, List.set_cons_zero, List.set_cons_succ] at hk
            exact hk
          refine rules_cons (n := 10) (ds := [some 26, some 27, some 28, some 29, some 30, some 31, some 32, some 33, some 9, none]) (by kernel_rfl) (by kernel_rfl) [4, 5] rfl (by kernel_rfl) ?_ ?_
          · intro x wq hx hS hdep K hK
            obtain ⟨x0, x1, x2, x3, x4, x5, x6, x7, x8, x9, rfl⟩ := len10 hx
            obtain rfl : x4 = .agg (a.pos.map (Value.int .i64)).toArray := hdep 4 (by simp)
            obtain rfl : x5 = .agg (pv.map (Value.int .i64)).toArray := hdep 5 (by simp)
            have s0 := hS.1
            have s1 := hS.2.1
            have s2 := hS.2.2.1
            have sA := hS.2.2.2
            clear hdep hx hS
            simp only [putD, Act.put, List.setIfInBounds_toArray, List.set_cons_zero, List.set_cons_succ]
            go_simp
            go_at_call 55
            refine (HTM.out _).mono ?_
            rintro e w1 ⟨rfl, ha⟩
            have hk := hK.out (.agg #[.int .i64 (hiW d), .int .u64 (loW d)]) _ ha ⟨Lib.hid (keep_cell ha s0.out), Lib.hid (range_later s1.out ha), Lib.hid (s2.out.later ha), Lib.hid (sA.out.trans ha)⟩ rfl (fun _ _ _ _ => ⟨trivial, trivial⟩)
            simp only [putD, Act.put, List.setIfInBounds_toArray, List.set_cons_zero, List.set_cons_succ] at hk
            exact hk
          refine rules_cons (n := 10) (ds := [some 26, some 27, some 28, some 29, some 30, some 31, some 32, some 33, some 9, none]) (by kernel_rfl) (by kernel_rfl) [2, 6] rfl (by kernel_rfl) ?_ ?_
          · intro x wq hx hS hdep K hK
            obtain ⟨x0, x1, x2, x3, x4, x5, x6, x7, x8, x9, rfl⟩ := len10 hx
            obtain rfl : x2 = .agg #[.int .i64 (hiW c), .int .u64 (loW c)] := hdep 2 (by simp)
            obtain rfl : x6 = .agg #[.int .i64 (hiW d), .int .u64 (loW d)] := hdep 6 (by simp)
            have s0 := hS.1
            have s1 := hS.2.1
            have s2 := hS.2.2.1
            have sA := hS.2.2.2
            clear hdep hx hS
            simp only [putD, Act.put, List.setIfInBounds_toArray, List.set_cons_zero, List.set_cons_succ]
            go_simp
            go_at_call 41
            refine (HPU.out _).mono ?_
            rintro e w1 ⟨rfl, ha⟩
            have hk := hK.out (.agg #[.int .i64 (hiW cd), .int .u64 (loW cd)]) _ ha ⟨Lib.hid (keep_cell ha s0.out), Lib.hid (range_later s1.out ha), Lib.hid (s2.out.later ha), Lib.hid (sA.out.trans ha)⟩ rfl (fun _ _ _ _ => ⟨trivial, trivial⟩)
            simp only [putD, Act.put, List.setIfInBounds_toArray, List.set_cons_zero, List.set_cons_succ] at hk
            exact hk
          refine rules_cons (n := 10) (ds := [some 26, some 27, some 28, some 29, some 30, some 31, some 32, some 33, some 9, none]) (by kernel_rfl) (by kernel_rfl) [] rfl (by kernel_rfl) ?_ ?_
          · intro x wq hx hS hdep K hK
            obtain ⟨x0, x1, x2, x3, x4, x5, x6, x7, x8, x9, rfl⟩ := len10 hx
            have s0 := hS.1
            have s1 := hS.2.1
            have s2 := hS.2.2.1
            have sA := hS.2.2.2
            clear hdep hx hS
            simp only [putD, Act.put, List.setIfInBounds_toArray, List.set_cons_zero, List.set_cons_succ]
            go_simp
            have ha := (Adds.refl wq).alloc (.cells #[.int .i64 0, .int .u64 0] 89)
            have hk := hK.out (.pointer (some ⟨wq.heap.size, 0, none⟩)) _ ha ⟨Lib.hid (keep_cell ha s0.out), Lib.hid (range_later s1.out ha), Lib.hid (s2.out.later ha), Lib.hid (sA.out.trans ha)⟩ ⟨wq.heap.size, rfl, Box.new _ _ _, sA.out.size⟩ (fun _ _ _ _ => ⟨trivial, trivial⟩)
            simp only [putD, Act.put, List.setIfInBounds_toArray, List.set_cons_zero, List.set_cons_succ] at hk
            exact hk
          refine rules_skip rfl ?_
          exact rules_nil
        case hrest =>
          intro x wq hx hS hP
          obtain ⟨x0, x1, x2, x3, x4, x5, x6, x7, x8, x9, rfl⟩ := len10 hx
          obtain rfl : x0 = .pointer (some ⟨s, 0, none⟩) := hP 0 (by decide) (by rfl)
          obtain rfl : x1 = .int .i64 c := hP 1 (by decide) (by rfl)
          obtain rfl : x2 = .agg #[.int .i64 (hiW c), .int .u64 (loW c)] := hP 2 (by decide) (by rfl)
          obtain rfl : x3 = .pointer (some ⟨s, 2, none⟩) := hP 3 (by decide) (by rfl)
          obtain rfl : x4 = .agg (a.pos.map (Value.int .i64)).toArray := hP 4 (by decide) (by rfl)
          obtain rfl : x5 = .agg (pv.map (Value.int .i64)).toArray := hP 5 (by decide) (by rfl)
          obtain rfl : x6 = .agg #[.int .i64 (hiW d), .int .u64 (loW d)] := hP 6 (by decide) (by rfl)
          obtain rfl : x7 = .agg #[.int .i64 (hiW cd), .int .u64 (loW cd)] := hP 7 (by decide) (by rfl)
          obtain ⟨g9, rfl, b9, l9⟩ : ∃ g, x8 = .pointer (some ⟨g, 0, none⟩) ∧ Box wq g #[.int .i64 0, .int .u64 0] 89 ∧ wo.heap.size ≤ g := hP 8 (by decide) (by rfl)
          have s0 := hS.1
          have s1 := hS.2.1
          have s2 := hS.2.2.1
          have sA := hS.2.2.2
          clear hP hx hS
          simp only [putD, Act.put, List.setIfInBounds_toArray, List.set_cons_zero, List.set_cons_succ]
          have z0 : wq.cell? ⟨g9, 0, none⟩ = some (.int .i64 0) := b9.cell 0
          have z1 : wq.cell? ⟨g9, 1, none⟩ = some (.int .u64 0) := b9.cell 1
          have z2 : wq.frozen? ⟨g9, 0, none⟩ = false := b9.free 0
          have z3 : wq.frozen? ⟨g9, 1, none⟩ = false := b9.free 1
          refine rest_loud (i := 9) (o := ⟨none, _, _, _, _, _⟩) (by kernel_rfl) rfl (fun K hK => ?_)
          go_simp
          refine hK.out _ _ ?_
          clear hK K
          try simp only [List.setIfInBounds_toArray, List.set_cons_zero, List.set_cons_succ]
          refine rest_done (by kernel_rfl) ?_ _
          go_wp2
          go_meet
          exact ⟨g9, rfl, Lib.hid ((b9.set 0 _).set 1 _), Lib.hid ((sA.out.set l9 _).set l9 _)⟩
      case rest =>
        obtain ⟨g9, rfl, B9, A9⟩ := hcut
        have YP := Lib.hid (range_later RP.out A9.out)
        have Y1 := Lib.hid (R1.out.later A9.out)
        have Y2 := Lib.hid (R2.out.later A9.out)
        have YA := Lib.hid (RA.out.trans A9.out)
        clear HWD HTM HPU RC
        go_upto_region 8 with fail
        refine wp_region_rules (fun i => i == 7) (fun wq => Hid (Box wq g9 #[.int .i64 (hiW cd), .int .u64 (loW cd)] 89) ∧ Hid (wq.rangeAt s 2 (a.pos.map (Value.int .i64))) ∧ Hid (Box wq (s + 1) bv 61) ∧ Hid (Box wq (s + 1 + 1) #[.int .i64 0, .int .u64 0] 89) ∧ Hid (Adds w wq)) Adds (fun i v wq => match i with | 0 => v = .pointer (some ⟨b, 0, none⟩) | 1 => v = .pointer (some ⟨s, 2, none⟩) | 2 => v = .agg (a.pos.map (Value.int .i64)).toArray | 3 => v = .agg bv | 4 => v = .agg #[.int .i64 (hiW mg), .int .u64 (loW mg)] | 5 => v = .agg #[.int .i64 (hiW cd), .int .u64 (loW cd)] | 6 => v = .agg #[.int .i64 (hiW rs), .int .u64 (loW rs)] | _ => True) (by kernel_rfl) (by kernel_rfl) (by kernel_rfl) (by kernel_rfl) 8 (by kernel_rfl) [some 34, some 35, some 36, some 37, some 38, some 39, some 40, none] (by kernel_rfl) 1 #[true, true, true, true, true, true, true, false] (by kernel_rfl) (by kernel_rfl) ?hS ?hstab ?hrules ?hrest
        case hS => exact ⟨Lib.hid B9.out.drew, Lib.hid YP.out, Lib.hid Y1.out.drew, Lib.hid Y2.out.drew, Lib.hid YA.out.drew⟩
        case hstab =>
          intro j v w1 w2 hst _ h
          match j, h with
          | 0, h => exact h
          | 1, h => exact h
          | 2, h => exact h
          | 3, h => exact h
          | 4, h => exact h
          | 5, h => exact h
          | 6, h => exact h
          | 7, h => trivial
          | _ + 8, h => trivial
        case hrules =>
          refine rules_cons (n := 8) (ds := [some 34, some 35, some 36, some 37, some 38, some 39, some 40, none]) (by kernel_rfl) (by kernel_rfl) [] rfl (by kernel_rfl) ?_ ?_
          · intro x wq hx hS hdep K hK
            obtain ⟨x0, x1, x2, x3, x4, x5, x6, x7, rfl⟩ := len8 hx
            have s0 := hS.1
            have s1 := hS.2.1
            have s2 := hS.2.2.1
            have s3 := hS.2.2.2.1
            have sA := hS.2.2.2.2
            clear hdep hx hS
            simp only [putD, Act.put, List.setIfInBounds_toArray, List.set_cons_zero, List.set_cons_succ]
            go_simp
            have hk := hK.out (.pointer (some ⟨b, 0, none⟩)) _ (Adds.refl wq) ⟨s0, s1, s2, s3, sA⟩ rfl (fun _ _ _ _ => ⟨trivial, trivial⟩)
            simp only [putD, Act.put, List.setIfInBounds_toArray, List.set_cons_zero, List.set_cons_succ] at hk
            exact hk
          refine rules_cons (n := 8) (ds := [some 34, some 35, some 36, some 37, some 38, some 39, some 40, none]) (by kernel_rfl) (by kernel_rfl) [] rfl (by kernel_rfl) ?_ ?_
          · intro x wq hx hS hdep K hK
            obtain ⟨x0, x1, x2, x3, x4, x5, x6, x7, rfl⟩ := len8 hx
            have s0 := hS.1
            have s1 := hS.2.1
            have s2 := hS.2.2.1
            have s3 := hS.2.2.2.1
            have sA := hS.2.2.2.2
            clear hdep hx hS
            simp only [putD, Act.put, List.setIfInBounds_toArray, List.set_cons_zero, List.set_cons_succ]
            go_simp
            have hk := hK.out (.pointer (some ⟨s, 2, none⟩)) _ (Adds.refl wq) ⟨s0, s1, s2, s3, sA⟩ rfl (fun _ _ _ _ => ⟨trivial, trivial⟩)
            simp only [putD, Act.put, List.setIfInBounds_toArray, List.set_cons_zero, List.set_cons_succ] at hk
            exact hk
          refine rules_cons (n := 8) (ds := [some 34, some 35, some 36, some 37, some 38, some 39, some 40, none]) (by kernel_rfl) (by kernel_rfl) [1] rfl (by kernel_rfl) ?_ ?_
          · intro x wq hx hS hdep K hK
            obtain ⟨x0, x1, x2, x3, x4, x5, x6, x7, rfl⟩ := len8 hx
            obtain rfl : x1 = .pointer (some ⟨s, 2, none⟩) := hdep 1 (by simp)
            have s0 := hS.1
            have s1 := hS.2.1
            have s2 := hS.2.2.1
            have s3 := hS.2.2.2.1
            have sA := hS.2.2.2.2
            clear hdep hx hS
            simp only [putD, Act.put, List.setIfInBounds_toArray, List.set_cons_zero, List.set_cons_succ]
            refine wp_load_mid 61 _ rfl s 2 rfl (a.pos.map (Value.int .i64)) _ s1.out Try.underlying61 rfl (by rw [info_month, HPS.out]) ?_
            have hk := hK.out (.agg (a.pos.map (Value.int .i64)).toArray) _ (Adds.refl wq) ⟨s0, s1, s2, s3, sA⟩ rfl (fun _ _ _ _ => ⟨trivial, trivial⟩)
            simp only [putD, Act.put, List.setIfInBounds_toArray, List.set_cons_zero, List.set_cons_succ] at hk
            exact hk
          refine rules_cons (n := 8) (ds := [some 34, some 35, some 36, some 37, some 38, some 39, some 40, none]) (by kernel_rfl) (by kernel_rfl) [] rfl (by kernel_rfl) ?_ ?_
          · intro x wq hx hS hdep K hK
            obtain ⟨x0, x1, x2, x3, x4, x5, x6, x7, rfl⟩ := len8 hx
            have s0 := hS.1
            have s1 := hS.2.1
            have s2 := hS.2.2.1
            have s3 := hS.2.2.2.1
            have sA := hS.2.2.2.2
            clear hdep hx hS
            simp only [putD, Act.put, List.setIfInBounds_toArray, List.set_cons_zero, List.set_cons_succ]
            refine wp_load_row 61 _ rfl (s + 1) rfl 61 bv (0, 0) _ s2.out Try.underlying61 rfl (by rw [info_month, HBS.out]) ?_
            have hk := hK.out (.agg bv) _ (Adds.refl wq) ⟨s0, s1, s2, s3, sA⟩ rfl (fun _ _ _ _ => ⟨trivial, trivial⟩)
            simp only [putD, Act.put, List.setIfInBounds_toArray, List.set_cons_zero, List.set_cons_succ] at hk
            exact hk
          refine rules_cons (n := 8) (ds := [some 34, some 35, some 36, some 37, some 38, some 39, some 40, none]) (by kernel_rfl) (by kernel_rfl) [0, 2, 3] rfl (by kernel_rfl) ?_ ?_
          · intro x wq hx hS hdep K hK
            obtain ⟨x0, x1, x2, x3, x4, x5, x6, x7, rfl⟩ := len8 hx
            obtain rfl : x0 = .pointer (some ⟨b, 0, none⟩) := hdep 0 (by simp)
            obtain rfl : x2 = .agg (a.pos.map (Value.int .i64)).toArray := hdep 2 (by simp)
            obtain rfl : x3 = .agg bv := hdep 3 (by simp)
            have s0 := hS.1
            have s1 := hS.2.1
            have s2 := hS.2.2.1
            have s3 := hS.2.2.2.1
            have sA := hS.2.2.2.2
            clear hdep hx hS
            simp only [putD, Act.put, List.setIfInBounds_toArray, List.set_cons_zero, List.set_cons_succ]
            go_simp
            go_at_call 39
            refine (HMA.out _ sA.out).mono ?_
            rintro e w1 ⟨rfl, ha⟩
            have hk := hK.out (.agg #[.int .i64 (hiW mg), .int .u64 (loW mg)]) _ ha ⟨Lib.hid (s0.out.later ha), Lib.hid (range_later s1.out ha), Lib.hid (s2.out.later ha), Lib.hid (s3.out.later ha), Lib.hid (sA.out.trans ha)⟩ rfl (fun _ _ _ _ => ⟨trivial, trivial⟩)
            simp only [putD, Act.put, List.setIfInBounds_toArray, List.set_cons_zero, List.set_cons_succ] at hk
            exact hk
          refine rules_cons (n := 8) (ds := [some 34, some 35, some 36, some 37, some 38, some 39, some 40, none]) (by kernel_rfl) (by kernel_rfl) [] rfl (by kernel_rfl) ?_ ?_
          · intro x wq hx hS hdep K hK
            obtain ⟨x0, x1, x2, x3, x4, x5, x6, x7, rfl⟩ := len8 hx
            have s0 := hS.1
            have s1 := hS.2.1
            have s2 := hS.2.2.1
            have s3 := hS.2.2.2.1
            have sA := hS.2.2.2.2
            clear hdep hx hS
            simp only [putD, Act.put, List.setIfInBounds_toArray, List.set_cons_zero, List.set_cons_succ]
            have c0 : wq.cell? ⟨g9, 0, none⟩ = some (.int .i64 (hiW cd)) := s0.out.cell 0
            have c1 : wq.cell? ⟨g9, 1, none⟩ = some (.int .u64 (loW cd)) := s0.out.cell 1
            go_simp
            have hk := hK.out (.agg #[.int .i64 (hiW cd), .int .u64 (loW cd)]) _ (Adds.refl wq) ⟨s0, s1, s2, s3, sA⟩ rfl (fun _ _ _ _ => ⟨trivial, trivial⟩)
            simp only [putD, Act.put, List.setIfInBounds_toArray, List.set_cons_zero, List.set_cons_succ] at hk
            exact hk
          refine rules_cons (n := 8) (ds := [some 34, some 35, some 36, some 37, some 38, some 39, some 40, none]) (by kernel_rfl) (by kernel_rfl) [4, 5] rfl (by kernel_rfl) ?_ ?_
          · intro x wq hx hS hdep K hK
            obtain ⟨x0, x1, x2, x3, x4, x5, x6, x7, rfl⟩ := len8 hx
            obtain rfl : x4 = .agg #[.int .i64 (hiW mg), .int .u64 (loW mg)] := hdep 4 (by simp)
            obtain rfl : x5 = .agg #[.int .i64 (hiW cd), .int .u64 (loW cd)] := hdep 5 (by simp)
            have s0 := hS.1
            have s1 := hS.2.1
            have s2 := hS.2.2.1
            have s3 := hS.2.2.2.1
            have sA := hS.2.2.2.2
            clear hdep hx hS
            simp only [putD, Act.put, List.setIfInBounds_toArray, List.set_cons_zero, List.set_cons_succ]
            go_simp
            go_at_call 66
            refine (HMN.out _).mono ?_
            rintro e w1 ⟨rfl, ha⟩
            have hk := hK.out (.agg #[.int .i64 (hiW rs), .int .u64 (loW rs)]) _ ha ⟨Lib.hid (s0.out.later ha), Lib.hid (range_later s1.out ha), Lib.hid (s2.out.later ha), Lib.hid (s3.out.later ha), Lib.hid (sA.out.trans ha)⟩ rfl (fun _ _ _ _ => ⟨trivial, trivial⟩)
            simp only [putD, Act.put, List.setIfInBounds_toArray, List.set_cons_zero, List.set_cons_succ] at hk
            exact hk
          refine rules_skip rfl ?_
          exact rules_nil
        case hrest =>
          intro x wq hx hS hP
          obtain ⟨x0, x1, x2, x3, x4, x5, x6, x7, rfl⟩ := len8 hx
          obtain rfl : x0 = .pointer (some ⟨b, 0, none⟩) := hP 0 (by decide) (by rfl)
          obtain rfl : x1 = .pointer (some ⟨s, 2, none⟩) := hP 1 (by decide) (by rfl)
          obtain rfl : x2 = .agg (a.pos.map (Value.int .i64)).toArray := hP 2 (by decide) (by rfl)
          obtain rfl : x3 = .agg bv := hP 3 (by decide) (by rfl)
          obtain rfl : x4 = .agg #[.int .i64 (hiW mg), .int .u64 (loW mg)] := hP 4 (by decide) (by rfl)
          obtain rfl : x5 = .agg #[.int .i64 (hiW cd), .int .u64 (loW cd)] := hP 5 (by decide) (by rfl)
          obtain rfl : x6 = .agg #[.int .i64 (hiW rs), .int .u64 (loW rs)] := hP 6 (by decide) (by rfl)
          have s0 := hS.1
          have s1 := hS.2.1
          have s2 := hS.2.2.1
          have s3 := hS.2.2.2.1
          have sA := hS.2.2.2.2
          clear hP hx hS
          simp only [putD, Act.put, List.setIfInBounds_toArray, List.set_cons_zero, List.set_cons_succ]
          have z0 : wq.cell? ⟨s + 1 + 1, 0, none⟩ = some (.int .i64 0) := s3.out.cell 0
          have z1 : wq.cell? ⟨s + 1 + 1, 1, none⟩ = some (.int .u64 0) := s3.out.cell 1
          have z2 : wq.frozen? ⟨s + 1 + 1, 0, none⟩ = false := s3.out.free 0
          have z3 : wq.frozen? ⟨s + 1 + 1, 1, none⟩ = false := s3.out.free 1
          refine rest_loud (i := 7) (o := ⟨none, _, _, _, _, _⟩) (by kernel_rfl) rfl (fun K hK => ?_)
          go_simp
          refine hK.out _ _ ?_
          clear hK K
          try simp only [List.setIfInBounds_toArray, List.set_cons_zero, List.set_cons_succ]
          refine rest_done (by kernel_rfl) ?_ _
          go_wp2
          refine post_wide rfl rfl rfl ((s3.out.set 0 _).set 1 _) ⟨by rw [HRES.out], (sA.out.set (by have := HS.out; show _ ≤ s + 1 + 1; omega) _).set (by have := HS.out; show _ ≤ s + 1 + 1; omega) _⟩

end Go.Proofs.Ytmkpidipoadnbaa
