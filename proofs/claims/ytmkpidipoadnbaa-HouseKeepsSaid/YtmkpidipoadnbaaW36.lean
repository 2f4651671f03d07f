/- What a loss leaves in the house's hole. -/
import Derived.Test.YtmkpidipoadnbaaW35
import Derived.StillTailTactics
namespace Go.Proofs.Ytmkpidipoadnbaa
open Go Go.RowKit Go.Sort

section
variable {w : World} {base b ga ca cm ck : Nat} {pm pk : Option Addr} {h : Hs}
theorem one_len (x : Int) : -4611686018427387904 ≤ x ∧ x ≤ 4611686018427387904 → 0 ≤ max x (-x) ∧ max x (-x) ≤ 9223372036854775807 := fun h => ⟨by omega, by omega⟩
set_option maxRecDepth 100000 in
set_option maxHeartbeats 4000000 in
theorem handOver_any (hh : HouseAt w base b ga ca pm cm pk ck h) (hn : h.ac.length ≤ 20) (hp : PosOK h.ac) (i : Nat) (a : Ac) (ha : h.ac[i]? = some a) :
    Calls Try.prog 30 #[.pointer (some ⟨b, 0, none⟩), .pointer (some ⟨ga, i * 15, none⟩)] w fun e w' => e = .returned (.tuple #[]) ∧ HouseAt w' base b ga ca pm cm pk ck (handK h i a.pos 12) ∧ Touch (fun k => k = ga) w w' := by
  have hpl : a.pos.length = 12 := (hp a (List.mem_of_getElem? ha)).1
  have HPL := Lib.hid hpl
  have HPB := Lib.hid (hp a (List.mem_of_getElem? ha)).2
  have HIL := Lib.hid (List.getElem?_eq_some_iff.1 ha).1
  have HIX := Lib.hid (fun k x hx w => run_index12 a.pos hpl k x hx w)
  have hr2 : w.rangeAt ga (i * 15 + 2) (a.pos.map (Value.int .i64)) := fun j v hj => by
    have := hh.acc ha (2 + j) v (by rw [← List.getElem?_toArray]; exact encA_pos hpl j v hj)
    rw [Nat.add_assoc]
    exact this
  have HR := Lib.hid hr2
  have HH := Lib.hid hh
  have HP := Lib.hid hp
  have HN := Lib.hid hn
  obtain ⟨ps, hps⟩ : ∃ ps, ps = a.pos := ⟨_, rfl⟩
  rw [← hps] at HPL HPB HIX HR ⊢
  obtain ⟨av, hav⟩ : ∃ v, v = (ps.map (Value.int .i64)).toArray := ⟨_, rfl⟩
  rw [← hav] at HIX
  have HAV := Lib.hid hav
  have hgb := hh.blk.2.elim fun _ e => (Array.getElem?_eq_some_iff.1 e).1
  have HGW := Lib.hid hgb
  clear hh hp hn ha hpl hr2 hps hav hgb
  go_enter Try.func30, Try.ntmps30
  go_upto_region 1 with (refine wpList_load_mid rfl 61 _ rfl ga (i * 15 + 2) rfl (ps.map (Value.int .i64)) _ HR.out Try.underlying61 rfl (by rw [info_month, List.length_map, HPL.out]) ?_)
  rw [← HAV.out]
  go_loopw [10] (fun v10 wr => ∃ k : Nat, k ≤ 12 ∧ v10 = .int .i64 k ∧ Hid (HouseAt wr base b ga ca pm cm pk ck (handK h i ps k)) ∧ Hid (Touch (fun k => k = ga) w wr)) (fun v10 _ => 12 - (intOf v10).toNat)
  case atStart => exact ⟨0, by omega, rfl, HH, Lib.hid (Touch.refl _ _)⟩
  case round =>
    obtain ⟨k, hk, rfl, RH, RT⟩ := hrel
    clear HH HR
    by_cases hlt : k < 12
    · have hlt2 : (k : Int) < 12 := by omega
      have hk0 : (0 : Int) ≤ (k : Int) := by omega
      obtain ⟨x, hx⟩ : ∃ x, ps[k]? = some x := ⟨_, List.getElem?_eq_getElem (by have := HPL.out; omega)⟩
      have hix := HIX.out k x hx
      have hxb := HPB.out x (List.mem_of_getElem? hx)
      have HXB := Lib.hid hxb
      have HXD : Hid (ps.getD k 0 = x) := Lib.hid (by rw [List.getD_eq_getElem?_getD, hx]; rfl)
      obtain ⟨G, hG⟩ : ∃ G, G = handK h i ps k := ⟨_, rfl⟩
      have HGE : Hid (handK h i ps (k + 1) = zeroA (drawH G (decide (x < 0)) (valP k) (updP k) (max x (-x))) i k) := Lib.hid (by rw [handK, handS, HXD.out, ← hG])
      have HGP : Hid (PosOK G.ac) := Lib.hid (by rw [hG]; exact handK_pos HP.out i ps k)
      have HGL : Hid (G.ac.length = h.ac.length) := Lib.hid (by rw [hG]; exact handK_len h i ps k)
      rw [← hG] at RH
      clear hG hx hxb
      obtain ⟨bm, hbm⟩ : ∃ s, s = wr.heap.size := ⟨_, rfl⟩
      go_upto_region 3 with fail
      rw [← hbm]
      have hb1 : Box (wr.alloc (.cells #[.int .i64 (k : Int)] 3)) bm #[.int .i64 (k : Int)] 3 := box_new hbm
      have hA1 : Adds wr (wr.alloc (.cells #[.int .i64 (k : Int)] 3)) := (Adds.refl wr).alloc _
      obtain ⟨W1, hW1⟩ : ∃ V, V = wr.alloc (.cells #[.int .i64 (k : Int)] 3) := ⟨_, rfl⟩
      rw [← hW1] at hb1 hA1 ⊢
      have HB1 := Lib.hid hb1
      have HA1 := Lib.hid hA1
      have HBG : Hid (¬ bm = ga) := Lib.hid (by
        have h1 := HGW.out
        have h2 := RT.out.size
        omega)
      have H1 : Hid (HouseAt W1 base b ga ca pm cm pk ck G) := Lib.hid (RH.out.later hA1)
      have HG12 : Hid (∀ a ∈ G.ac, a.pos.length = 12) := Lib.hid (fun a ha => (HGP.out a ha).1)
      have HG20 : Hid (G.ac.length ≤ 20) := Lib.hid (by rw [HGL.out]; exact HN.out)
      have HSZ := Lib.hid (size_any x W1 (by have := HXB.out; omega) (by have := HXB.out; omega))
      have HPO := Lib.hid (pots_any H1.out (by have := HG20.out; omega) (decide (x < 0)) (valP k) (2 + k) 46 #[.pointer (some ⟨bm, 0, none⟩)] (fun a ha => (field_pos hlt).get a (HG12.out a ha)) (fun i' _ W hW => pick_pos i' k bm W hlt ((hb1.later hW).cell 0)) (fun _ _ => rfl))
      have HDR := Lib.hid (fun W (hW : HouseAt W base b ga ca pm cm pk ck G) => draw_pots (field_pos hlt) hW HG12.out HG20.out (decide (x < 0)) (max x (-x)) (one_len x HXB.out).1 (one_len x HXB.out).2 (fun a ha => posOK_getD HGP.out ha k))
      have hmf : ∀ (fn : Fn) (first cap : Array Value) (w : World), (Instr.makeFunc fn first cap).run Try.prog w = .ok (.func fn first cap) w := fun _ _ _ _ => rfl
      obtain ⟨y, hy⟩ : ∃ y, y = max x (-x) := ⟨_, rfl⟩
      obtain ⟨bx, hbx⟩ : ∃ y, decide (x < 0) = y := ⟨_, rfl⟩
      rw [← hy] at HSZ HDR HGE
      rw [hbx] at HPO HDR HGE
      have HYD := Lib.hid hy
      clear hbm hb1 hA1 hW1 hy
      go_upto_region 4 with (first
        | (go_at_call 44; refine HSZ.out.mono ?_; rintro e w2 ⟨rfl, rfl⟩)
        | (go_at_call 45; refine HPO.out.mono ?_; rintro e w3 ⟨q, c, rfl, hq, ha3⟩; have HQ := Lib.hid hq; have HA3 := Lib.hid ha3; clear hq ha3)
        | (go_at_call 43; refine (HDR.out _ (H1.out.later HA3.out) q c _ HQ.out).mono ?_; rintro e w4 ⟨rfl, h4, t4⟩; have H4 := Lib.hid h4; have T4 := Lib.hid t4; clear h4 t4))
      have hL4 : (drawH G bx (valP k) (updP k) y).ac.length = h.ac.length := by rw [drawH_len, HGL.out]
      have hP4 : PosOK (drawH G bx (valP k) (updP k) y).ac := drawH_pos HGP.out bx k y (by rw [HYD.out]; exact (one_len x HXB.out).1)
      obtain ⟨G2, hG2⟩ : ∃ G2, G2 = drawH G bx (valP k) (updP k) y := ⟨_, rfl⟩
      obtain ⟨a', ha'⟩ : ∃ a', G2.ac[i]? = some a' := ⟨_, List.getElem?_eq_getElem (by rw [hG2, hL4]; exact HIL.out)⟩
      have H5 : Hid (HouseAt w4 base b ga ca pm cm pk ck G2) := Lib.hid (by rw [hG2]; exact H4.out)
      have HGE2 : Hid (handK h i ps (k + 1) = zeroA G2 i k) := Lib.hid (by rw [HGE.out, hG2])
      have HA' := Lib.hid ha'
      have HPA : Hid (a'.pos.length = 12) := Lib.hid (hP4 a' (by rw [← hG2]; exact List.mem_of_getElem? ha')).1
      have d0 : w4.cell? ⟨bm, 0, none⟩ = some (.int .i64 (k : Int)) := touch_cell T4.out HBG.out ((HB1.out.later HA3.out).cell 0)
      have d1 : w4.frozen? ⟨ga, i * 15 + 2 + k, none⟩ = false := by rw [Nat.add_assoc]; exact (H5.out.there ha' (2 + k) (by omega)).2
      have d2 : w4.cell? ⟨ga, i * 15 + 2 + k, none⟩ = some (.int .i64 (valP k a')) := by rw [Nat.add_assoc]; exact H5.out.acc ha' (2 + k) _ ((field_pos hlt).get a' HPA.out)
      obtain ⟨zx, hzx⟩ : ∃ zx, zx = valP k a' := ⟨_, rfl⟩
      rw [← hzx] at d2
      clear hzx
      have HT : Hid (Touch (fun k => k = ga) w w4) := Lib.hid (((RT.out.behind HA1.out).behind HA3.out).trans T4.out)
      clear HDR HPO HSZ hL4 hP4 hG2 ha' H4 T4 HQ H1 RH HGP HGL hmf
      go_still_tail 5, (by kernel_rfl)
      change wpList _ _ _ _ _ w4.drew
      go_wp2
      exact ⟨⟨k + 1, by omega, by go_num, Lib.hid (by rw [HGE2.out]; exact H5.out.drew.zero HA'.out HPA.out hlt), Lib.hid ((HT.out.behind (Adds.refl w4).drew).set rfl _)⟩, by simp [intOf]; omega⟩
    · have hkk : k = 12 := by omega
      subst hkk
      go_wp2
      refine bodyPost_end (results_none rfl _ _ _) rfl ?_
      exact ⟨rfl, RH.out, RT.out⟩
end

end Go.Proofs.Ytmkpidipoadnbaa

namespace Go.Proofs.Ytmkpidipoadnbaa
open Go Go.RowKit Go.Sort

abbrev valF (a : Ac) : Int := a.fund
abbrev updF (a : Ac) (x : Int) : Ac := { a with fund := x }
abbrev valC (a : Ac) : Int := a.cash
abbrev updC (a : Ac) (x : Int) : Ac := { a with cash := x }

section
variable {w : World} {base b ga ca cm ck : Nat} {pm pk : Option Addr} {h : Hs}
set_option maxRecDepth 100000 in
theorem pick_fund (i : Nat) (w : World) : Calls Try.prog 64 #[.pointer (some ⟨ga, i * 15, none⟩)] w fun e w' => e = .returned (.pointer (some ⟨ga, i * 15 + 1, none⟩)) ∧ Adds w w' := by
  go_enter Try.func64, Try.ntmps64
  go_wp2
  go_ret
  exact ⟨rfl, Adds.refl w⟩
set_option maxRecDepth 100000 in
theorem pick_cash (i : Nat) (w : World) : Calls Try.prog 65 #[.pointer (some ⟨ga, i * 15, none⟩)] w fun e w' => e = .returned (.pointer (some ⟨ga, i * 15 + 0, none⟩)) ∧ Adds w w' := by
  rw [Nat.add_zero]
  go_enter Try.func65, Try.ntmps65
  go_wp2
  go_ret
  exact ⟨rfl, Adds.refl w⟩
set_option maxRecDepth 100000 in
set_option maxHeartbeats 2000000 in
theorem takeFunds_any (hh : HouseAt w base b ga ca pm cm pk ck h) (h12 : ∀ a ∈ h.ac, a.pos.length = 12) (hn : h.ac.length ≤ 20) (A : Int) (hA0 : 0 ≤ A) (hA1 : A ≤ 9223372036854775807) (hb : ∀ a ∈ h.ac, -4611686018427387904 ≤ valF a ∧ valF a ≤ 4611686018427387904) (v : Value) :
    Calls Try.prog 49 #[.pointer (some ⟨b, 0, none⟩), v, .int .u64 A] w fun e w' => e = .returned (.int .u64 (potF h true valF A).sum) ∧ HouseAt w' base b ga ca pm cm pk ck (drawH h true valF updF A) ∧ Touch (fun k => k = ga) w w' := by
  have HH := Lib.hid hh
  have HPO := Lib.hid (pots_any hh (by omega) true valF 1 64 #[] (fun a ha => field_fund.get a (h12 a ha)) (fun i _ W _ => (pick_fund i W)) (fun _ _ => rfl))
  have HDR := Lib.hid (fun W (hW : HouseAt W base b ga ca pm cm pk ck h) => draw_pots field_fund hW h12 hn true A hA0 hA1 hb)
  clear hh h12 hn hA0 hA1 hb
  go_enter Try.func49, Try.ntmps49
  go_wp2_with (first
    | (go_at_call 45; refine HPO.out.mono ?_; rintro e w3 ⟨q, c, rfl, hq, ha3⟩; have HQ := Lib.hid hq; have HA3 := Lib.hid ha3; clear hq ha3)
    | (go_at_call 43; refine (HDR.out _ (HH.out.later HA3.out) q c _ HQ.out).mono ?_; rintro e w4 ⟨rfl, h4, t4⟩; have H4 := Lib.hid h4; have T4 := Lib.hid t4; clear h4 t4))
  go_ret
  exact ⟨rfl, H4.out, (Touch.of_adds HA3.out _).trans T4.out⟩
set_option maxRecDepth 100000 in
set_option maxHeartbeats 2000000 in
theorem takeGains_any (hh : HouseAt w base b ga ca pm cm pk ck h) (h12 : ∀ a ∈ h.ac, a.pos.length = 12) (hn : h.ac.length ≤ 20) (A : Int) (hA0 : 0 ≤ A) (hA1 : A ≤ 9223372036854775807) (hb : ∀ a ∈ h.ac, -4611686018427387904 ≤ valC a ∧ valC a ≤ 4611686018427387904) (v : Value) :
    Calls Try.prog 50 #[.pointer (some ⟨b, 0, none⟩), v, .int .u64 A] w fun e w' => e = .returned (.int .u64 (potF h true valC A).sum) ∧ HouseAt w' base b ga ca pm cm pk ck (drawH h true valC updC A) ∧ Touch (fun k => k = ga) w w' := by
  have HH := Lib.hid hh
  have HPO := Lib.hid (pots_any hh (by omega) true valC 0 65 #[] (fun a ha => field_cash.get a (h12 a ha)) (fun i _ W _ => (pick_cash i W)) (fun _ _ => rfl))
  have HDR := Lib.hid (fun W (hW : HouseAt W base b ga ca pm cm pk ck h) => draw_pots field_cash hW h12 hn true A hA0 hA1 hb)
  clear hh h12 hn hA0 hA1 hb
  go_enter Try.func50, Try.ntmps50
  go_wp2_with (first
    | (go_at_call 45; refine HPO.out.mono ?_; rintro e w3 ⟨q, c, rfl, hq, ha3⟩; have HQ := Lib.hid hq; have HA3 := Lib.hid ha3; clear hq ha3)
    | (go_at_call 43; refine (HDR.out _ (HH.out.later HA3.out) q c _ HQ.out).mono ?_; rintro e w4 ⟨rfl, h4, t4⟩; have H4 := Lib.hid h4; have T4 := Lib.hid t4; clear h4 t4))
  go_ret
  exact ⟨rfl, H4.out, (Touch.of_adds HA3.out _).trans T4.out⟩
end

end Go.Proofs.Ytmkpidipoadnbaa

namespace Go.Proofs.Ytmkpidipoadnbaa
open Go Go.RowKit Go.Sort

/-- One number, drawn at alone. -/
def oneF (A v : Int) : List Int := shareU A (sizeL [v])
def ownH (h : Hs) (i : Nat) (v A : Int) : Hs := { h with ac := putAcs updF h.ac ([i].zip (nearL [v] (oneF A v))) }

section
variable {w : World} {base b ga ca cm ck : Nat} {pm pk : Option Addr} {h : Hs}
theorem one_cells {w : World} {s : Nat} {u : Value} {t : TypeId} (hb : Box w s #[u] t) : CellsAt w (some ⟨s, 0, none⟩) [u] := by
  intro j v hj
  cases j with
  | zero => simp at hj; subst hj; exact ⟨s, 0, rfl, hb.cell 0⟩
  | succ j => simp at hj
set_option maxRecDepth 100000 in
set_option maxHeartbeats 2000000 in
theorem takeOwn_any (hh : HouseAt w base b ga ca pm cm pk ck h) (h12 : ∀ a ∈ h.ac, a.pos.length = 12) (i : Nat) (a : Ac) (ha : h.ac[i]? = some a) (A : Int) (hA0 : 0 ≤ A) (hA1 : A ≤ 9223372036854775807) (hb : -4611686018427387904 ≤ valF a ∧ valF a ≤ 4611686018427387904) (u : Value) :
    Calls Try.prog 47 #[u, .pointer (some ⟨ga, i * 15, none⟩), .int .u64 A] w fun e w' => e = .returned (.int .u64 (oneF A (valF a)).sum) ∧ HouseAt w' base b ga ca pm cm pk ck (ownH h i (valF a) A) ∧ Touch (fun k => k = ga) w w' := by
  have hgb := hh.blk.2.elim fun _ e => (Array.getElem?_eq_some_iff.1 e).1
  have HIL := Lib.hid (List.getElem?_eq_some_iff.1 ha).1
  have HDR := Lib.hid (fun W (hW : Adds w W) (s : Nat) (hs : w.heap.size ≤ s) (hB : Box W s #[.pointer (some ⟨ga, i * 15 + 1, none⟩)] 98) => draw_any A (some ⟨s, 0, none⟩) 1 [(ga, i * 15 + 1)] [valF a] W rfl (by simp) (one_cells hB) (fun x hx q hq => by
    have e1 : x = (ga, i * 15 + 1) := by simpa using hx
    injection hq with hq
    subst e1 hq
    show ga ≠ s
    omega) (fun j x v h1 h2 => by
    cases j with
    | zero =>
      simp at h1 h2
      subst h1 h2
      exact ⟨(hh.later hW).acc ha 1 _ (field_fund.get a (h12 a (List.mem_of_getElem? ha))), ((hh.later hW).there ha 1 (by omega)).2⟩
    | succ j => simp at h1) (by simp) (fun v hv => by
    have e1 : v = valF a := by simpa using hv
    subst e1
    exact hb) hA0 hA1)
  have HH := Lib.hid hh
  have H12 := Lib.hid h12
  obtain ⟨fv, hfv⟩ : ∃ v, v = valF a := ⟨_, rfl⟩
  rw [← hfv] at HDR ⊢
  clear hh h12 ha hA0 hA1 hb hgb hfv
  go_enter Try.func47, Try.ntmps47
  go_wp2_with (go_at_call 43; refine (HDR.out _ ((Adds.refl w).alloc _) w.heap.size (Nat.le_refl _) (box_new rfl)).mono ?_; rintro e w4 ⟨W1, rfl, hA, rfl⟩; have HA := Lib.hid hA; clear hA)
  go_ret
  have HA2 := ((Adds.refl w).alloc (.cells #[.pointer (some ⟨ga, i * 15 + 1, none⟩)] 98)).trans HA.out
  have hz : [(ga, i * 15 + 1)].zip (nearL [fv] (shareU A (sizeL [fv]))) = ([i].zip (nearL [fv] (oneF A fv))).map fun x => (potAt ga 1 x.1, x.2) := by
    show ([i].map (potAt ga 1)).zip (nearL [fv] (oneF A fv)) = _
    rw [List.zip_map_left]
    rfl
  rw [hz]
  refine ⟨rfl, (HH.out.later HA2).putAll field_fund _ H12.out (fun x hx => ?_), putAll_touch _ (fun x hx => ?_) (Touch.of_adds HA2 _)⟩
  · have : x.1 = i := by simpa using (List.of_mem_zip hx).1
    rw [this]; exact HIL.out
  · obtain ⟨y, hy, rfl⟩ := List.mem_map.1 hx
    rfl
end

end Go.Proofs.Ytmkpidipoadnbaa

namespace Go.Proofs.Ytmkpidipoadnbaa
open Go Go.RowKit Go.Sort

section
variable {w : World} {base b ga ca cm ck : Nat} {pm pk : Option Addr} {h : Hs}
theorem HouseAt.cap_cells (hp : h.prices.length = 12) (x : Int) : houseCells { h with capital := x } ga ca pm cm pk ck = (houseCells h ga ca pm cm pk ck).setIfInBounds 16 (.int .i64 x) := by
  unfold houseCells
  rw [List.setIfInBounds_toArray]
  congr 1
  show _ = _ :: _ :: List.set _ 14 _
  rw [List.set_append_right _ _ (by simp [hp]), List.length_map, hp]
  rfl
theorem HouseAt.hole_cells (hp : h.prices.length = 12) (x : Int) : houseCells { h with hole := x } ga ca pm cm pk ck = (houseCells h ga ca pm cm pk ck).setIfInBounds 17 (.int .i64 x) := by
  unfold houseCells
  rw [List.setIfInBounds_toArray]
  congr 1
  show _ = _ :: _ :: List.set _ 15 _
  rw [List.set_append_right _ _ (by simp [hp]), List.length_map, hp]
  rfl
theorem HouseAt.cap (hh : HouseAt w base b ga ca pm cm pk ck h) (hp : h.prices.length = 12) (x : Int) : HouseAt (w.setCell ⟨b, 16, none⟩ (.int .i64 x)) base b ga ca pm cm pk ck { h with capital := x } := by
  have hs : ∀ k, k ≠ b → (w.setCell ⟨b, 16, none⟩ (.int .i64 x)).heap[k]? = w.heap[k]? := fun k hk => Below.heap_setCell w _ _ k hk
  refine ⟨?_, own_heap hh.ac hh.bx (by decide) hs, own_heap hh.mv hh.bx (by decide) hs, hh.ks.heap hh.bx (by decide) hs, hh.lo⟩
  rw [HouseAt.cap_cells hp]
  exact hh.bx.set 16 _
theorem HouseAt.hol (hh : HouseAt w base b ga ca pm cm pk ck h) (hp : h.prices.length = 12) (x : Int) : HouseAt (w.setCell ⟨b, 17, none⟩ (.int .i64 x)) base b ga ca pm cm pk ck { h with hole := x } := by
  have hs : ∀ k, k ≠ b → (w.setCell ⟨b, 17, none⟩ (.int .i64 x)).heap[k]? = w.heap[k]? := fun k hk => Below.heap_setCell w _ _ k hk
  refine ⟨?_, own_heap hh.ac hh.bx (by decide) hs, own_heap hh.mv hh.bx (by decide) hs, hh.ks.heap hh.bx (by decide) hs, hh.lo⟩
  rw [HouseAt.hole_cells hp]
  exact hh.bx.set 17 _
/-- The house once a loss drew at its capital. -/
def capH (h : Hs) (A : Int) : Hs := { h with capital := nearV h.capital ((oneF A h.capital).getD 0 0) }
set_option maxRecDepth 100000 in
set_option maxHeartbeats 2000000 in
theorem takeCapital_any (hh : HouseAt w base b ga ca pm cm pk ck h) (hp : h.prices.length = 12) (A : Int) (hA0 : 0 ≤ A) (hA1 : A ≤ 9223372036854775807) (hb : -4611686018427387904 ≤ h.capital ∧ h.capital ≤ 4611686018427387904) (u : Value) :
    Calls Try.prog 48 #[.pointer (some ⟨b, 0, none⟩), u, .int .u64 A] w fun e w' => e = .returned (.int .u64 (oneF A h.capital).sum) ∧ HouseAt w' base b ga ca pm cm pk ck (capH h A) ∧ Touch (fun k => k = b) w w' := by
  have hbw := hh.bx.lt
  have HDR := Lib.hid (fun W (hW : Adds w W) (s : Nat) (hs : w.heap.size ≤ s) (hB : Box W s #[.pointer (some ⟨b, 16, none⟩)] 98) => draw_any A (some ⟨s, 0, none⟩) 1 [(b, 16)] [h.capital] W rfl (by simp) (one_cells hB) (fun x hx q hq => by
    have e1 : x = (b, 16) := by simpa using hx
    injection hq with hq
    subst e1 hq
    show b ≠ s
    omega) (fun j x v h1 h2 => by
    cases j with
    | zero =>
      simp at h1 h2
      subst h1 h2
      exact ⟨(hh.later hW).ctail hp 2 _ rfl, (hh.later hW).bx.free 16⟩
    | succ j => simp at h1) (by simp) (fun v hv => by
    have e1 : v = h.capital := by simpa using hv
    subst e1
    exact hb) hA0 hA1)
  have HH := Lib.hid hh
  have HP := Lib.hid hp
  have HLF : Hid (∃ f, shareU A (sizeL [h.capital]) = [f]) := Lib.hid (by
    have hl : (shareU A (sizeL [h.capital])).length = 1 := shareU_len _ _
    match hz : shareU A (sizeL [h.capital]), hl with
    | [f], _ => exact ⟨f, rfl⟩)
  obtain ⟨fv, hfv⟩ : ∃ v, v = h.capital := ⟨_, rfl⟩
  have HFV := Lib.hid hfv
  rw [← hfv] at HDR HLF ⊢
  clear hh hp hA0 hA1 hb hbw hfv
  go_enter Try.func48, Try.ntmps48
  go_wp2_with (go_at_call 43; refine (HDR.out _ ((Adds.refl w).alloc _) w.heap.size (Nat.le_refl _) (box_new rfl)).mono ?_; rintro e w4 ⟨W1, rfl, hA, rfl⟩; have HA := Lib.hid hA; clear hA)
  go_ret
  have HA2 := ((Adds.refl w).alloc (.cells #[.pointer (some ⟨b, 16, none⟩)] 98)).trans HA.out
  obtain ⟨f, hf⟩ := HLF.out
  have e1 : capH h A = { h with capital := nearV fv f } := by
    unfold capH oneF
    rw [← HFV.out, hf]
    rfl
  rw [e1]
  unfold oneF
  rw [hf]
  exact ⟨rfl, (HH.out.later HA2).cap HP.out _, Touch.set (O := fun k => k = b) (p := ⟨b, 16, none⟩) (Touch.of_adds HA2 _) rfl _⟩
end

end Go.Proofs.Ytmkpidipoadnbaa

namespace Go.Proofs.Ytmkpidipoadnbaa
open Go Go.RowKit Go.Sort

section
variable {w : World} {base b ga ca cm ck : Nat} {pm pk : Option Addr} {h : Hs}
set_option maxRecDepth 100000 in
set_option maxHeartbeats 2000000 in
theorem takeHole_any (hh : HouseAt w base b ga ca pm cm pk ck h) (hp : h.prices.length = 12) (A : Int) (hA0 : 0 ≤ A) (hA1 : A ≤ 9223372036854775807) (h1 : -9223372036854775808 ≤ h.hole + A) (h2 : h.hole + A ≤ 9223372036854775807) (u : Value) :
    Calls Try.prog 51 #[.pointer (some ⟨b, 0, none⟩), u, .int .u64 A] w fun e w' => e = .returned (.int .u64 A) ∧ HouseAt w' base b ga ca pm cm pk ck { h with hole := h.hole + A } ∧ Touch (fun k => k = b) w w' := by
  have d0 : w.cell? ⟨b, 17, none⟩ = some (.int .i64 h.hole) := hh.ctail hp 3 _ rfl
  have d1 : w.frozen? ⟨b, 17, none⟩ = false := hh.bx.free 17
  have HH := Lib.hid (hh.hol hp (h.hole + A))
  obtain ⟨x, hx⟩ : ∃ x, x = h.hole := ⟨_, rfl⟩
  rw [← hx] at d0 h1 h2 HH ⊢
  have hw : IntKind.i64.wrap A = A := by rw [IntKind.wrap_i64]; omega
  have hw2 : IntKind.i64.wrap (x + A) = x + A := by rw [IntKind.wrap_i64]; omega
  clear hh hp hx
  go_enter Try.func51, Try.ntmps51
  go_wp2
  go_ret
  exact ⟨rfl, HH.out, Touch.set (O := fun k => k = b) (p := ⟨b, 17, none⟩) (Touch.refl _ _) rfl _⟩
end

end Go.Proofs.Ytmkpidipoadnbaa
