/- For every input the law DryShifts of package oastlaw07 returns true (if all times are later by the same, the same number of kilns is needed, the best set is the same, and the plan by the earliest due is later by that), and its inputs read afterwards as they did before.
   Conditions: none beyond those of the given statement. -/
import Derived.Test.YtkofnhimgegcnaaFQ
import Derived.Test.YtkofnhimgegcnaaFP
import Derived.Test.YtkofnhimgegcnaaAH
import Derived.IntWalk
import Derived.Test.YtkofnhimgegcnaaAU
namespace Go.Proofs.Ytkofnhimgegcnaa
open Go Go.RowKit Go.Sort Go.Maps

/-- The loads at some places. -/
def pickL (l : List Ld) (T : List Nat) : List Ld := T.map fun i => l[i]?.getD (0, 0, 0, 0)
theorem pickL_len (l : List Ld) (T : List Nat) : (pickL l T).length = T.length := by simp [pickL]
theorem pickL_get {l : List Ld} {T : List Nat} {k i : Nat} (h : T[k]? = some i) (hi : i < l.length) : (pickL l T)[k]? = l[i]? := by
  unfold pickL
  rw [List.getElem?_map, h, List.getElem?_eq_getElem hi]
  simp [hi]
theorem cnt_places (f : Nat → Bool) (T : List Nat) : ∀ m, m ≤ T.length → cntN m (fun k => (T[k]?.map f).getD false) = (T.take m).countP f
  | 0, _ => by simp [cntN]
  | m + 1, h => by
    obtain ⟨i, hi⟩ : ∃ i, T[m]? = some i := ⟨_, List.getElem?_eq_getElem (by omega)⟩
    obtain ⟨h1, h2⟩ := List.getElem?_eq_some_iff.1 hi
    rw [cntN, cnt_places f T m (by omega), List.take_succ_eq_append_getElem h1, h2, List.countP_append, hi]
    simp [List.countP_cons]
theorem at_places {l : List Ld} {K : Nat} {T : List Nat} (hn : T.Nodup) (hb : ∀ i ∈ T, i < l.length) {t t' : Nat → Nat} (ht : ∀ k i, T[k]? = some i → t' k = t i) (h : Nat) :
    (shOf (pickL l T) K).at (fun _ => true) t' h = (shOf l K).at (fun i => decide (i ∈ T)) t h := by
  have h1 := cnt_list (fun i => t i == h) l.length T hn hb
  have h2 := cnt_places (fun i => t i == h) T T.length (Nat.le_refl _)
  rw [List.take_length, ← h1] at h2
  have e1 : (shOf (pickL l T) K).at (fun _ => true) t' h = cntN T.length (fun k => (T[k]?.map (fun i => t i == h)).getD false) := by
    show cntN (pickL l T).length _ = _
    rw [pickL_len]
    refine cntN_congr fun k hk => ?_
    obtain ⟨i, hi⟩ : ∃ i, T[k]? = some i := ⟨_, List.getElem?_eq_getElem hk⟩
    rw [hi, ht k i hi]
    simp
  rw [e1, h2]
  show _ = cntN l.length _
  exact cntN_congr fun i _ => by simp [Bool.and_comm]
theorem pick_fit {l : List Ld} {K : Nat} {T : List Nat} (hn : T.Nodup) (hb : ∀ i ∈ T, i < l.length) : (shOf (pickL l T) K).Fit (fun _ => true) ↔ (shOf l K).Fit (fun i => decide (i ∈ T)) := by
  have hrd : ∀ k i, T[k]? = some i → (shOf (pickL l T) K).r k = (shOf l K).r i ∧ (shOf (pickL l T) K).d k = (shOf l K).d i := fun k i h => by
    have hi := hb i (List.mem_of_getElem? h)
    have e := pickL_get h hi
    exact ⟨by show ((((pickL l T)[k]?.map (fun x : Ld => x.1)).getD 0).toNat) = (((l[i]?.map (fun x : Ld => x.1)).getD 0).toNat); rw [e], by show ((((pickL l T)[k]?.map (fun x : Ld => x.2.1)).getD 0).toNat) = (((l[i]?.map (fun x : Ld => x.2.1)).getD 0).toNat); rw [e]⟩
  constructor
  · rintro ⟨(t' : Nat → Nat), h1, h2⟩
    have hex : ∀ i : Nat, ∃ h : Nat, ∀ k : Nat, T[k]? = some i → t' k = h := fun i => by
      by_cases c : ∃ k : Nat, T[k]? = some i
      · obtain ⟨k, hk⟩ := c
        refine ⟨t' k, fun k' hk' => ?_⟩
        obtain ⟨a1, a2⟩ := List.getElem?_eq_some_iff.1 hk
        obtain ⟨b1, b2⟩ := List.getElem?_eq_some_iff.1 hk'
        have : k = k' := (List.getElem_inj hn).1 (a2.trans b2.symm)
        rw [this]
      · exact ⟨0, fun k hk => absurd ⟨k, hk⟩ c⟩
    obtain ⟨t, ht⟩ := Classical.axiomOfChoice hex
    refine ⟨t, fun i hi hS => ?_, fun h => ?_⟩
    · obtain ⟨k, hk⟩ := List.getElem?_of_mem (of_decide_eq_true hS)
      have := h1 k (by rw [shOf_n, pickL_len]; exact (List.getElem?_eq_some_iff.1 hk).1) rfl
      rw [(hrd k i hk).1, (hrd k i hk).2, ht i k hk] at this
      exact this
    · rw [← at_places hn hb (t' := t') (fun k i hk => ht i k hk) h]
      exact h2 h
  · rintro ⟨t, h1, h2⟩
    refine ⟨fun k => t (T[k]?.getD 0), fun k hk _ => ?_, fun h => ?_⟩
    · rw [shOf_n, pickL_len] at hk
      obtain ⟨i, hi⟩ : ∃ i, T[k]? = some i := ⟨_, List.getElem?_eq_getElem hk⟩
      have := h1 i (by rw [shOf_n]; exact hb i (List.mem_of_getElem? hi)) (decide_eq_true (List.mem_of_getElem? hi))
      rw [(hrd k i hi).1, (hrd k i hi).2]
      show _ ≤ t (T[k]?.getD 0) ∧ t (T[k]?.getD 0) < _
      rw [hi]
      exact this
    · rw [at_places hn hb (t := t) (fun k i hk => by rw [hk]; rfl) h]
      exact h2 h
/-- Some of the loads can be dried just if the set of their places fits. -/
theorem pick_dry (w : World) {l : List Ld} {K : Nat} {T : List Nat} (hok : ∀ x ∈ l, okB x = true) (hsh : ∀ x ∈ l, x.2.2.1 = 1) (hn : T.Nodup) (hb : ∀ i ∈ T, i < l.length) (hl : l.length ≤ 256) (hK : K ≤ 256) : CanDry (pickL l T) K ↔ (shOf l K).Fit (fun i => decide (i ∈ T)) := by
  have hmem : ∀ x ∈ pickL l T, x ∈ l := fun x hx => by
    obtain ⟨k, hk⟩ := List.getElem?_of_mem hx
    have hkl := (List.getElem?_eq_some_iff.1 hk).1
    rw [pickL_len] at hkl
    obtain ⟨i, hi⟩ : ∃ i, T[k]? = some i := ⟨_, List.getElem?_eq_getElem hkl⟩
    rw [pickL_get hi (hb i (List.mem_of_getElem? hi))] at hk
    exact List.mem_of_getElem? hk
  have hle : (pickL l T).length ≤ 256 := by
    rw [pickL_len]
    have h1 := cnt_list (fun _ => true) l.length T hn hb
    have h2 := cntN_bd (fun i => true && decide (i ∈ T)) l.length
    rw [List.countP_true] at h1
    omega
  rw [dry_fit w (fun x hx => okB_okN (hok x (hmem x hx))) (fun x hx => hsh x (hmem x hx)) hle hK]
  exact pick_fit hn hb
end Go.Proofs.Ytkofnhimgegcnaa

namespace Go.Proofs.Ytkofnhimgegcnaa
open Go Go.RowKit Go.Sort Go.Maps

/-- A list of numbers that the law is given. -/
def ArgI (w : World) (p : Option Addr) (La : List Int) : Prop := ∀ j x, La[j]? = some x → ∃ g off, p = some ⟨g, off, none⟩ ∧ w.cell? ⟨g, off + j, none⟩ = some (.int .i64 x)
theorem ArgI.later {w w' : World} {p : Option Addr} {La : List Int} (h : ArgI w p La) (ha : Adds w w') : ArgI w' p La := fun j x hj => by
  obtain ⟨g, off, e, c⟩ := h j x hj
  exact ⟨g, off, e, keep_cell ha c⟩
theorem own_beside {w Wa w' : World} {base t size n : Nat} {v : Value} {xs : List Value} {row : Option Nat} (h : w.ownsRow base t size v n xs) (ha : Adds w Wa) (hg : Wa.grownBy w' row) (hne : ∀ r, v.ownBlock = some r → row ≠ some r) : w'.ownsRow base t size v n xs :=
  own_same h fun r hr => by
    obtain ⟨_, cu, z2⟩ := own_block h hr
    have hlt := (Array.getElem?_eq_some_iff.1 z2).1
    exact (hg.block r (Nat.lt_of_lt_of_le hlt ha.size) (fun e => hne r hr e.symm)).trans (ha.block r hlt)

theorem apart_grow {w : World} {base t size n g H : Nat} {v v2 : Value} {xs : List Value} (ho : w.ownsRow base t size v2 n xs) (hH : w.heap.size ≤ H) (hl : v.ownBlock = some g ∨ g = H) (hne : ∀ r, v2.ownBlock = some r → v.ownBlock ≠ some r) : ∀ r, v2.ownBlock = some r → some g ≠ some r := fun r hr => by
  obtain ⟨_, cu, z2⟩ := own_block ho hr
  have hlt := (Array.getElem?_eq_some_iff.1 z2).1
  rcases hl with e | e
  · rw [← e]; exact hne r hr
  · intro h; injection h with h; omega
theorem own_loads {w : World} {base n c : Nat} {p : Option Addr} {l : List Ld} (h : w.ownsRow base 72 4 (.slice p n c) n (l.flatMap enc4)) (hn : n = l.length) : LoadsAt w p l := by
  subst hn
  exact Loads.at (show Loads w 72 base (.slice p l.length c) l from h)
theorem give_n (q : Option Addr) (c n : Nat) (l : List Ld) (W : World) (hL : LoadsAt W q l) (hn : n = l.length) (h : n ≤ 1000) : Calls Try.prog 16 #[.slice q n c] W fun e w' => ∃ c' q', e = .returned (.slice q' n c') ∧ LoadsAt w' q' l ∧ Adds W w' := by
  subst hn
  exact give_at q c l W hL h
theorem Fits_n (q : Option Addr) (c n K : Nat) (l : List Ld) (W : World) (hL : LoadsAt W q l) (hn : n = l.length) (h : n ≤ 256) (hok : ∀ x ∈ l, okB x = true) (hK : 1 ≤ K ∧ K ≤ 64) (b : Bool) (hb : b = true ↔ CanDry l K) :
    Calls Try.prog 15 #[.slice q n c, .int .i64 K] W fun e w' => e = .returned (.tuple #[.bool b, .int .i64 0]) ∧ Adds W w' := by
  subst hn
  exact Fits_at q c K l W hL h hok hK b hb
theorem worthL_take {v : Nat → Int} {L : List Nat} {i y : Nat} (h : L[i]? = some y) : worthL v (L.take (i + 1)) = worthL v (L.take i) + v y := by
  obtain ⟨h1, h2⟩ := List.getElem?_eq_some_iff.1 h
  rw [List.take_succ_eq_append_getElem h1, h2, worthL_snoc]
theorem pickL_snoc (l : List Ld) (T : List Nat) (y : Nat) : pickL l (T ++ [y]) = pickL l T ++ [l[y]?.getD (0, 0, 0, 0)] := by simp [pickL]
theorem pick_flat {l : List Ld} {y : Nat} {x : Ld} (T : List Nat) (hx : l[y]? = some x) : (pickL l (T ++ [y])).flatMap enc4 = (pickL l T).flatMap enc4 ++ enc4 x := by
  rw [pickL_snoc, hx]
  simp
theorem take_snoc2 {L : List Nat} {i y : Nat} (h : L[i]? = some y) : L.take (i + 1) = L.take i ++ [y] := by
  obtain ⟨h1, h2⟩ := List.getElem?_eq_some_iff.1 h
  rw [List.take_succ_eq_append_getElem h1, h2]
theorem range_filter {m : Nat} {Q : List Nat} (h : Q.Sublist (List.range m)) : setL (fun i => decide (i ∈ Q)) m = Q := by
  have h1 : Q.Pairwise (· < ·) := List.Pairwise.sublist h List.pairwise_lt_range
  have h2 := setL_sorted (fun i => decide (i ∈ Q)) m
  refine List.Perm.eq_of_pairwise (le := fun a b => a < b) (fun a b _ _ h1 h2 => by omega) h2 h1 ?_
  refine (List.perm_ext_iff_of_nodup (h2.imp (fun h => Nat.ne_of_lt h)) (h1.imp (fun h => Nat.ne_of_lt h))).2 fun a => ?_
  unfold setL
  rw [List.mem_filter]
  constructor
  · exact fun h => of_decide_eq_true h.2
  · exact fun hq => ⟨h.subset hq, decide_eq_true hq⟩

set_option maxRecDepth 100000 in
set_option maxHeartbeats 4000000 in
theorem sets_law (p : Option Addr) (cl : Nat) (l : List Ld) (x : Int) (p2 : Option Addr) (c2 : Nat) (La : List Int) (w : World) (hL : LoadsAt w p l) (hcl : l.length ≤ cl) (hmx : cl ≤ maxLen) (hLa : ArgI w p2 La) (hc2 : La.length ≤ c2) (hcm : c2 ≤ maxLen) :
    Calls Try.prog 9 #[.slice p l.length cl, .int .i64 x, .slice p2 La.length c2] w fun e w' => e = .returned (.bool true) ∧ Adds w w' := by
  have HTM := Lib.hid (tame_short p cl 15 l w hL (by omega) hcl hmx)
  have HLA := Lib.hid (fun (W : World) (hW : Adds w W) => hLa.later hW)
  have hm : La.length ≤ maxLen := by omega
  generalize l.length = N at *
  obtain ⟨ml, hml⟩ : ∃ m, m = La.length := ⟨_, rfl⟩
  rw [← hml] at hm ⊢
  have HML := Lib.hid hml
  clear hL hcl hmx hLa hc2 hcm hml
  obtain ⟨i0, hi, hi0, hi1, hi2⟩ := info_parts info72
  have HI := Lib.hid hi
  have HI0 := Lib.hid hi0
  have HI1 := Lib.hid hi1
  have HI2 := Lib.hid hi2
  clear hi hi0 hi1 hi2
  go_enter Try.func9, Try.ntmps9
  obtain ⟨hx0, hx1⟩ := wmod x 3 (by omega) (by omega)
  go_upto_region 2 with fail
  obtain ⟨K, hK⟩ : ∃ K : Nat, (K : Int) = 1 + wrap64 ((IntKind.u64.wrap x).tmod 3) := ⟨(1 + wrap64 ((IntKind.u64.wrap x).tmod 3)).toNat, by omega⟩
  simp only [← hK]
  have hKb : 1 ≤ K ∧ K ≤ 3 := by omega
  clear hK hx0 hx1
  go_upto_region 3 with (go_at_call 13; refine HTM.out.mono ?_; rintro e w1 ⟨c0, q0, l0, rfl, h1, h2, h3, h4, hb1⟩; have HL0 := Lib.hid h1; have HOK0 := Lib.hid h3; have HSH0 := Lib.hid h4; have HB1 := Lib.hid hb1; clear h1 h3 h4 hb1)
  have HG0 := Lib.hid (fun (W : World) (hW : Adds w1 W) => give_at q0 c0 l0 W (HL0.out.later hW) (by omega))
  have HBE := Lib.hid (fun (q2 : Option Addr) (c2 : Nat) (W : World) (hW : LoadsAt W q2 l0) => Best_any q2 c2 K l0 W hW (by omega) HOK0.out (short_any HSH0.out) (by omega))
  have HMO := Lib.hid (fun (G B : Nat → Bool) (h : BestOK l0 K G) (hB : (shOf l0 K).Fit B) => h.most HOK0.out hB)
  have HPD := Lib.hid (fun (T : List Nat) (hn : T.Nodup) (hb : ∀ i ∈ T, i < l0.length) => pick_dry w HOK0.out HSH0.out hn hb (by omega) (show K ≤ 256 by omega))
  have HWB := Lib.hid (worth_at HOK0.out)
  obtain ⟨m0, hm0⟩ : ∃ m, m = l0.length := ⟨_, rfl⟩
  have HM0 := Lib.hid hm0
  rw [← hm0] at h2 HG0 HBE HMO HPD ⊢
  clear hm0 HTM
  go_upto_region 4 with (first
    | (go_at_call 16; refine (HG0.out _ (Adds.refl _)).mono ?_; rintro e w2 ⟨c2, q2, rfl, hq2, hb2⟩; have HQ2 := Lib.hid hq2; have HB2 := Lib.hid hb2; clear hq2 hb2)
    | (go_at_call 30; refine (HBE.out _ _ _ HQ2.out).mono ?_; rintro e w3 ⟨G, c3, q3, hG, rfl, hn3, hb3⟩; have HGG := Lib.hid hG; have HN3 := Lib.hid hn3; have HB3 := Lib.hid hb3; clear hG hn3 hb3))
  have HA3 := Lib.hid ((HB1.out.trans HB2.out).trans HB3.out)
  obtain ⟨L, hLL⟩ : ∃ L, L = setL G m0 := ⟨_, rfl⟩
  rw [← hLL] at HN3
  obtain ⟨n3, hn3⟩ : ∃ n, n = L.length := ⟨_, rfl⟩
  obtain ⟨s3, hs3⟩ : ∃ y, y = worthL (wOf l0) L := ⟨_, rfl⟩
  rw [← hLL, ← hn3, ← hs3]
  rw [← hn3] at HN3
  have hsrt : L.Pairwise (· < ·) := by rw [hLL]; exact setL_sorted G m0
  have hinn : ∀ y ∈ L, y < m0 := by rw [hLL]; intro y hy; exact List.mem_range.1 (List.mem_filter.1 hy).1
  have hn15 : n3 ≤ 15 := by rw [hn3, hLL]; have := setL_len G m0; omega
  have HSRT := Lib.hid hsrt
  have HINN := Lib.hid hinn
  have HLL := Lib.hid hLL
  have HN3L := Lib.hid hn3
  have HS3 := Lib.hid hs3
  have HL3 := Lib.hid (fun (W : World) (hW : Adds w3 W) => HL0.out.later ((HB2.out.trans HB3.out).trans hW))
  clear hsrt hinn hLL hn3 hs3 HB1 HB2 HB3 HQ2 HBE HL0
  go_upto_region 9 with fail
  go_loopw [16, 12, 13, 15] (fun v16 v12 v13 v15 wr => ∃ (i : Nat) (pb : Option Addr) (cb : Nat) (P : List Nat) (np : Nat) (pp : Option Addr) (cp : Nat) (sm : Int), i ≤ n3 ∧ v16 = .int .i64 i ∧ v12 = .slice pb i cb ∧ v13 = .slice pp np cp ∧ v15 = .int .i64 sm ∧ Hid (np = P.length) ∧ np ≤ i ∧ 0 ≤ sm ∧ sm ≤ 1000000 * (i : Int) ∧ Hid (sm = worthL (wOf l0) (L.take i)) ∧ Hid (P.Sublist (L.take i)) ∧ Hid (wr.ownsRow w3.heap.size 72 4 (.slice pb i cb) i ((pickL l0 (L.take i)).flatMap enc4)) ∧ Hid (wr.ownsRow w3.heap.size 72 4 (.slice pp np cp) np ((pickL l0 P).flatMap enc4)) ∧ Hid (∀ r, (Value.slice pp np cp).ownBlock = some r → (Value.slice pb i cb).ownBlock ≠ some r) ∧ Hid (Adds w3 wr)) (fun v16 _ _ _ _ => n3 - (intOf v16).toNat)
  case atStart => exact ⟨0, none, 0, [], 0, none, 0, 0, by omega, rfl, rfl, rfl, rfl, Lib.hid rfl, by omega, by omega, by omega, Lib.hid (by simp [worthL]), Lib.hid (List.nil_sublist _), Lib.hid (World.ownsRow_nil _ _ _ _), Lib.hid (World.ownsRow_nil _ _ _ _), Lib.hid (fun r e => by simp [Value.ownBlock] at e), Lib.hid (Adds.refl _)⟩
  case round => as_aux_lemma =>
    obtain ⟨i, pb, cb, P, np, pp, cp, sm, hi, rfl, rfl, rfl, rfl, HNP, hnp, hs0, hs1, HSM, HSUB, HOB, HOP, HAP, HAD⟩ := hrel
    by_cases hin : i < n3
    · have hin2 : (i : Int) < (n3 : Int) := by omega
      have hi0 : (0 : Int) ≤ (i : Int) := by omega
      obtain ⟨y, hy⟩ : ∃ y, L[i]? = some y := ⟨_, List.getElem?_eq_getElem (by have := HN3L.out; omega)⟩
      have hym := HINN.out y (List.mem_of_getElem? hy)
      obtain ⟨g3, rfl, ky3⟩ := HN3.out i hin
      dsimp only at ky3
      rw [hy, Option.getD_some] at ky3
      have ky := keep_cell HAD.out ky3
      have KY3 := Lib.hid ky3
      obtain ⟨⟨x0, x1, x2, x3⟩, hx⟩ : ∃ x, l0[y]? = some x := ⟨_, List.getElem?_eq_getElem (by have := HM0.out; omega)⟩
      obtain ⟨g, off, rfl, b0, b1, b2, b3⟩ := HL3.out w3 (Adds.refl _) y _ hx
      dsimp only at b0 b1 b2 b3
      have D0 := Lib.hid b0
      have D1 := Lib.hid b1
      have D2 := Lib.hid b2
      have D3 := Lib.hid b3
      clear b0 b1 b2 b3 ky3
      have hvx := HWB.out y
      rw [wOf_get hx] at hvx
      dsimp only at hvx
      have hy0 : (y : Int) < (m0 : Int) := by omega
      have hyz : (0 : Int) ≤ (y : Int) := by omega
      have hyq : decide ((m0 : Int) ≤ (y : Int)) = false := decide_eq_false (by omega)
      have hyq2 : decide (m0 ≤ y) = false := decide_eq_false (by omega)
      have hyn : decide ((y : Int) < 0) = false := decide_eq_false (by omega)
      have HYY := Lib.hid hy
      have HXX := Lib.hid hx
      have hprev : 0 < i → ∃ z : Nat, z < y ∧ wr.cell? ⟨g3, i - 1, none⟩ = some (.int .i64 (z : Int)) := fun h0 => by
        obtain ⟨z, hz⟩ : ∃ z, L[i - 1]? = some z := ⟨_, List.getElem?_eq_getElem (by have := HN3L.out; omega)⟩
        obtain ⟨a1, a2⟩ := List.getElem?_eq_some_iff.1 hz
        obtain ⟨b1, b2⟩ := List.getElem?_eq_some_iff.1 HYY.out
        have := List.pairwise_iff_getElem.1 HSRT.out (i - 1) i a1 b1 (by omega)
        rw [a2, b2] at this
        obtain ⟨g4, e4, kz⟩ := HN3.out.later HAD.out (i - 1) (by omega)
        simp only [Option.some.injEq, Addr.mk.injEq, and_true] at e4
        subst e4
        dsimp only at kz
        rw [hz, Option.getD_some] at kz
        exact ⟨z, this, kz⟩
      have hgoal : ∀ (u : Nat) (W : World), True := fun _ _ => trivial
      clear hy hx hgoal
      obtain ⟨Wd0, hWd0⟩ : ∃ W : World, W = wr := ⟨_, rfl⟩
      have hcases : (decide ((0 : Int) < (i : Int)) = false ∧ decide (0 < i) = false) ∨ ((decide ((0 : Int) < (i : Int)) = true ∧ decide (0 < i) = true) ∧ ∃ pz z : Nat, decide ((y : Int) ≤ (z : Int)) = false ∧ decide (y ≤ z) = false ∧ (i : Int) - 1 = (pz : Int) ∧ (pz : Int) < (n3 : Int) ∧ wr.cell? ⟨g3, pz, none⟩ = some (.int .i64 (z : Int))) := by
        by_cases hi1 : 0 < i
        · obtain ⟨z, hzy, kz⟩ := hprev hi1
          exact .inr ⟨⟨decide_eq_true (by omega), decide_eq_true hi1⟩, i - 1, z, decide_eq_false (by omega), decide_eq_false (by omega), by omega, by omega, kz⟩
        · exact .inl ⟨decide_eq_false (by omega), decide_eq_false (by omega)⟩
      clear hWd0 hprev
      clear Wd0
      rcases hcases with ⟨hiq, hiq2⟩ | ⟨⟨hiq, hiq2⟩, pz, z, hzq, hzq2, hpi, hpn, kz⟩
      all_goals
        go_upto_region 11 with fail
        go_quiet (fail)
        obtain ⟨Wd, hWd⟩ : ∃ V, V = wr.drewN nq := ⟨_, rfl⟩
        rw [← hWd]
        have hAd : Adds wr Wd := by rw [hWd]; exact (Adds.refl _).drewN _
        have HAW := Lib.hid (HAD.out.trans hAd)
        have HOBW := Lib.hid (own_later HOB.out hAd)
        have HOPW := Lib.hid (own_later HOP.out hAd)
        have hws : w3.heap.size ≤ Wd.heap.size := HAW.out.size
        have hKY := KY3.out
        have ky2 := keep_cell HAW.out hKY
        have e0 := keep_cell HAW.out D0.out
        have e1 := keep_cell HAW.out D1.out
        have e2 := keep_cell HAW.out D2.out
        have e3 := keep_cell HAW.out D3.out
        clear hKY hWd hAd ky
        try clear kz hzq hzq2 hpi hpn
        go_upto_region 14 with (at_builtin; ((refine wpList_append_lies _ rfl _ _ 22 rfl w3.heap.size 72 i0 (.agg #[.int .i64 0, .int .i64 0, .int .i64 0, .int .i64 0]) 4 32 Try.underlying22 HI.out HI0.out HI1.out HI2.out rfl (by decide) (.slice pb i cb) i _ rfl (HOBW.out.alloc _) ⟨Wd.heap.size, 0, none⟩ 1 1 [.int .i64 x0, .int .i64 x1, .int .i64 x2, .int .i64 x3] rfl rfl (World.news_of_block (Box.new Wd _ 72)) (by simp [Value.oneCell']) (by omega) (by unfold maxLen; omega) (by omega) (by simp; omega) (Wd.heap.size + 1) (by simp) ?_); intro g6 c6 w6 ho hg hl hs6; have HO6 := Lib.hid ho; have HG6 := Lib.hid hg; have HL6 := Lib.hid hl; clear ho hg hl))
        have HA6 : Hid (Adds w3 w6) := Lib.hid (Below.grown (HAW.out.alloc _) HG6.out (by simp; omega) (fun j hj => (own_block HOBW.out hj).1))
        have HOP6 := Lib.hid (own_beside HOPW.out ((Adds.refl Wd).alloc _) HG6.out HAP.out)
        have HAP6 := Lib.hid (apart_grow HOPW.out (Nat.le_succ _) HL6.out HAP.out)
        clear ky2 e0 e1 e2 e3
        have ky2 := keep_cell HA6.out KY3.out
        have e0 := keep_cell HA6.out D0.out
        have e1 := keep_cell HA6.out D1.out
        have e2 := keep_cell HA6.out D2.out
        have e3 := keep_cell HA6.out D3.out
        have hw6 : w3.heap.size ≤ w6.heap.size := HA6.out.size
        go_upto_region 15 with fail
        have HNEW : Hid ((pickL l0 (L.take (i + 1))).flatMap enc4 = (pickL l0 (L.take i)).flatMap enc4 ++ [.int .i64 x0, .int .i64 x1, .int .i64 x2, .int .i64 x3]) := Lib.hid (by rw [take_snoc2 HYY.out, pick_flat _ HXX.out]; rfl)
        have HWN : Hid (sm + x3 = worthL (wOf l0) (L.take (i + 1))) := Lib.hid (by rw [worthL_take HYY.out, ← HSM.out, wOf_get HXX.out])
        have HOB6 : Hid (w6.ownsRow w3.heap.size 72 4 (.slice (some ⟨g6, 0, none⟩) (i + 1) c6) (i + 1) ((pickL l0 (L.take (i + 1))).flatMap enc4)) := Lib.hid (by rw [HNEW.out]; exact HO6.out)
        have HSUB1 : Hid (P.Sublist (L.take (i + 1))) := Lib.hid (by rw [take_snoc2 HYY.out]; exact HSUB.out.trans (List.sublist_append_left _ _))
        by_cases him : i < ml
        · have hil : decide (i < ml) = true := decide_eq_true him
          have hil2 : decide ((i : Int) < (ml : Int)) = true := decide_eq_true (by omega)
          have hil3 : (i : Int) < (ml : Int) := by omega
          obtain ⟨u, hu⟩ : ∃ u, La[i]? = some u := ⟨_, List.getElem?_eq_getElem (by have := HML.out; omega)⟩
          obtain ⟨g2, off2, rfl, ku⟩ := HLA.out w6 (HA3.out.trans HA6.out) i u hu
          clear hu
          obtain ⟨par, hpar⟩ : ∃ b, (u.tmod 2 != 0) = b := ⟨_, rfl⟩
          cases par
          · go_wp2
            refine ⟨⟨i + 1, _, _, P, np, pp, cp, sm + x3, by omega, by go_num, rfl, rfl, rfl, HNP, by omega, by omega, by omega, HWN, HSUB1, HOB6, HOP6, Lib.hid (fun r hr e => HAP6.out r hr (by simpa [Value.ownBlock] using e)), HA6⟩, by simp [intOf]; omega⟩
          · go_wp2_with (at_builtin; ((refine wpList_append_lies _ rfl _ _ 22 rfl w3.heap.size 72 i0 (.agg #[.int .i64 0, .int .i64 0, .int .i64 0, .int .i64 0]) 4 32 Try.underlying22 HI.out HI0.out HI1.out HI2.out rfl (by decide) (.slice pp np cp) np _ rfl (HOP6.out.alloc _) ⟨w6.heap.size, 0, none⟩ 1 1 [.int .i64 x0, .int .i64 x1, .int .i64 x2, .int .i64 x3] rfl rfl (World.news_of_block (Box.new w6 _ 72)) (by simp [Value.oneCell']) (by omega) (by unfold maxLen; omega) (by omega) (by simp; omega) (w6.heap.size + 1) (by simp) ?_); intro g7 c7 w7 ho hg hl hs7; have HO7 := Lib.hid ho; have HG7 := Lib.hid hg; have HL7 := Lib.hid hl; clear ho hg hl))
            have HA7 : Hid (Adds w3 w7) := Lib.hid (Below.grown (HA6.out.alloc _) HG7.out (by simp; omega) (fun j hj => (own_block HOP6.out hj).1))
            have HOB7 := Lib.hid (own_beside HOB6.out ((Adds.refl w6).alloc _) HG7.out (fun r hr e => HAP6.out r e (by simpa [Value.ownBlock] using hr)))
            have HAP7 := Lib.hid (apart_grow HOB6.out (Nat.le_succ _) HL7.out (fun r hr e => HAP6.out r e (by simpa [Value.ownBlock] using hr)))
            refine ⟨⟨i + 1, _, _, P ++ [y], np + 1, _, _, sm + x3, by omega, by go_num, rfl, rfl, rfl, Lib.hid (by rw [List.length_append, HNP.out]; rfl), by omega, by omega, by omega, HWN, Lib.hid (by rw [take_snoc2 HYY.out]; exact HSUB.out.append (List.Sublist.refl _)), HOB7, Lib.hid (by rw [pick_flat _ HXX.out]; exact HO7.out), Lib.hid (fun r hr e => HAP7.out r e (by simpa [Value.ownBlock] using hr)), HA7⟩, by simp [intOf]; omega⟩
        · have hil : decide (i < ml) = false := decide_eq_false him
          have hil2 : decide ((i : Int) < (ml : Int)) = false := decide_eq_false (by omega)
          go_wp2
          refine ⟨⟨i + 1, _, _, P, np, pp, cp, sm + x3, by omega, by go_num, rfl, rfl, rfl, HNP, by omega, by omega, by omega, HWN, HSUB1, HOB6, HOP6, Lib.hid (fun r hr e => HAP6.out r hr (by simpa [Value.ownBlock] using e)), HA6⟩, by simp [intOf]; omega⟩
    · have hin3 : n3 = i := by omega
      subst hin3
      have e1 : L.take n3 = L := List.take_of_length_le (by have := HN3L.out; omega)
      rw [e1] at HOB HSM HSUB
      have hss : sm = s3 := HSM.out.trans HS3.out.symm
      subst hss
      clear e1 hin
      obtain ⟨wo, rfl⟩ : ∃ wo : World, wo = wr := ⟨_, rfl⟩
      go_upto_region 19 with fail
      go_loopw [18, 14, 17] (fun v18 v14 v17 wr => ∃ (j : Nat) (Q : List Nat) (nq : Nat) (pq : Option Addr) (cq : Nat) (s2 : Int), j ≤ m0 ∧ v18 = .int .i64 j ∧ v14 = .slice pq nq cq ∧ v17 = .int .i64 s2 ∧ Hid (nq = Q.length) ∧ nq ≤ j ∧ 0 ≤ s2 ∧ s2 ≤ 1000000 * (j : Int) ∧ Hid (s2 = worthL (wOf l0) Q) ∧ Hid (Q.Sublist (List.range j)) ∧ Hid (wr.ownsRow wo.heap.size 72 4 (.slice pq nq cq) nq ((pickL l0 Q).flatMap enc4)) ∧ Hid (Adds wo wr)) (fun v18 _ _ _ => m0 - (intOf v18).toNat)
      case atStart => exact ⟨0, [], 0, none, 0, 0, by omega, rfl, rfl, rfl, Lib.hid rfl, by omega, by omega, by omega, Lib.hid (by simp [worthL]), Lib.hid (List.nil_sublist _), Lib.hid (World.ownsRow_nil _ _ _ _), Lib.hid (Adds.refl _)⟩
      case round =>
        obtain ⟨j, Q, nq, pq, cq, s2, hj, rfl, rfl, rfl, HNQ, hnq, hq0, hq1, HS2, HQS, HOQ, HA2⟩ := hrel
        by_cases hjm : j < m0
        · have hjm2 : (j : Int) < (m0 : Int) := by omega
          have hj0 : (0 : Int) ≤ (j : Int) := by omega
          obtain ⟨⟨x0, x1, x2, x3⟩, hx⟩ : ∃ x, l0[j]? = some x := ⟨_, List.getElem?_eq_getElem (by have := HM0.out; omega)⟩
          obtain ⟨g, off, rfl, b0, b1, b2, b3⟩ := HL3.out w3 (Adds.refl _) j _ hx
          dsimp only at b0 b1 b2 b3
          have D0 := Lib.hid b0
          have D1 := Lib.hid b1
          have D2 := Lib.hid b2
          have D3 := Lib.hid b3
          have d0 := keep_cell (HAD.out.trans HA2.out) b0
          have d1 := keep_cell (HAD.out.trans HA2.out) b1
          have d2 := keep_cell (HAD.out.trans HA2.out) b2
          have d3 := keep_cell (HAD.out.trans HA2.out) b3
          clear b0 b1 b2 b3
          have hvx := HWB.out j
          rw [wOf_get hx] at hvx
          dsimp only at hvx
          have HXX := Lib.hid hx
          clear hx
          have hws : wo.heap.size ≤ wr.heap.size := HA2.out.size
          have HSB1 : Hid (Q.Sublist (List.range (j + 1))) := Lib.hid (by rw [List.range_succ]; exact HQS.out.trans (List.sublist_append_left _ _))
          by_cases him : j < ml
          · have hil : decide (j < ml) = true := decide_eq_true him
            have hil2 : decide ((j : Int) < (ml : Int)) = true := decide_eq_true (by omega)
            have hil3 : (j : Int) < (ml : Int) := by omega
            obtain ⟨u, hu⟩ : ∃ u, La[j]? = some u := ⟨_, List.getElem?_eq_getElem (by have := HML.out; omega)⟩
            obtain ⟨g2, off2, rfl, ku⟩ := HLA.out wr ((HA3.out.trans HAD.out).trans HA2.out) j u hu
            clear hu
            obtain ⟨par, hpar⟩ : ∃ b, (u.tmod 3 == 0) = b := ⟨_, rfl⟩
            cases par
            · go_wp2
              refine ⟨⟨j + 1, Q, nq, pq, cq, s2, by omega, by go_num, rfl, rfl, HNQ, by omega, by omega, by omega, HS2, HSB1, HOQ, HA2⟩, by simp [intOf]; omega⟩
            · go_wp2_with (at_builtin; ((refine wpList_append_lies _ rfl _ _ 22 rfl wo.heap.size 72 i0 (.agg #[.int .i64 0, .int .i64 0, .int .i64 0, .int .i64 0]) 4 32 Try.underlying22 HI.out HI0.out HI1.out HI2.out rfl (by decide) (.slice pq nq cq) nq _ rfl (HOQ.out.alloc _) ⟨wr.heap.size, 0, none⟩ 1 1 [.int .i64 x0, .int .i64 x1, .int .i64 x2, .int .i64 x3] rfl rfl (World.news_of_block (Box.new wr _ 72)) (by simp [Value.oneCell']) (by omega) (by unfold maxLen; omega) (by omega) (by simp; omega) (wr.heap.size + 1) (by simp) ?_); intro g7 c7 w7 ho hg hl hs7; have HO7 := Lib.hid ho; have HG7 := Lib.hid hg; clear ho hg hl; have HA7 : Hid (Adds wo w7) := Lib.hid (Below.grown (HA2.out.alloc _) HG7.out (by simp; omega) (fun j hj => (own_block HOQ.out hj).1)); have e0 := keep_cell (HAD.out.trans HA7.out) D0.out; have e1 := keep_cell (HAD.out.trans HA7.out) D1.out; have e2 := keep_cell (HAD.out.trans HA7.out) D2.out; have e3 := keep_cell (HAD.out.trans HA7.out) D3.out))
              refine ⟨⟨j + 1, Q ++ [j], nq + 1, _, _, s2 + x3, by omega, by go_num, rfl, rfl, Lib.hid (by rw [List.length_append, HNQ.out]; rfl), by omega, by omega, by omega, Lib.hid (by rw [worthL_snoc, ← HS2.out, wOf_get HXX.out]), Lib.hid (by rw [List.range_succ]; exact HQS.out.append (List.Sublist.refl _)), Lib.hid (by rw [pick_flat _ HXX.out]; exact HO7.out), HA7⟩, by simp [intOf]; omega⟩
          · have hil : decide (j < ml) = false := decide_eq_false him
            have hil2 : decide ((j : Int) < (ml : Int)) = false := decide_eq_false (by omega)
            go_wp2
            refine ⟨⟨j + 1, Q, nq, pq, cq, s2, by omega, by go_num, rfl, rfl, HNQ, by omega, by omega, by omega, HS2, HSB1, HOQ, HA2⟩, by simp [intOf]; omega⟩
        · have hjm2 : m0 = j := by omega
          subst hjm2
          clear hjm
          have hLn : L.Nodup := HSRT.out.imp (fun h => Nat.ne_of_lt h)
          have hPs := HSUB.out
          have hPn : P.Nodup := hLn.sublist hPs
          have hQn : Q.Nodup := List.Nodup.sublist HQS.out List.nodup_range
          have hQb : ∀ i ∈ Q, i < m0 := fun i hi => List.mem_range.1 (HQS.out.subset hi)
          have hPb : ∀ i ∈ P, i < m0 := fun i hi => HINN.out i (hPs.subset hi)
          have hLG : ∀ i, i ∈ L → G i = true := fun i hi => by rw [HLL.out] at hi; exact (List.mem_filter.1 hi).2
          have hfL : (shOf l0 K).Fit (fun i => decide (i ∈ L)) := HGG.out.fit.less fun i _ hi => hLG i (of_decide_eq_true hi)
          have hfP : (shOf l0 K).Fit (fun i => decide (i ∈ P)) := HGG.out.fit.less fun i _ hi => hLG i (hPs.subset (of_decide_eq_true hi))
          have hdL := (HPD.out L hLn HINN.out).2 hfL
          have hdP := (HPD.out P hPn hPb).2 hfP
          obtain ⟨z, hz⟩ : ∃ z : Bool, z = true ↔ CanDry (pickL l0 Q) K := by classical exact ⟨decide (CanDry (pickL l0 Q) K), by simp⟩
          have hle : z = true → s2 ≤ sm := fun h => by
            have h1 := HMO.out G _ HGG.out ((HPD.out Q hQn hQb).1 (hz.1 h))
            rw [range_filter HQS.out, ← HS2.out, ← HLL.out, ← HS3.out] at h1
            exact h1
          have hokT : ∀ T : List Nat, (∀ i ∈ T, i < m0) → ∀ x ∈ pickL l0 T, okB x = true := fun T hT x hx => by
            obtain ⟨k, hk⟩ := List.getElem?_of_mem hx
            have hkl := (List.getElem?_eq_some_iff.1 hk).1
            rw [pickL_len] at hkl
            obtain ⟨i, hi⟩ : ∃ i, T[k]? = some i := ⟨_, List.getElem?_eq_getElem hkl⟩
            rw [pickL_get hi (by rw [← HM0.out]; exact hT i (List.mem_of_getElem? hi))] at hk
            exact HOK0.out x (List.mem_of_getElem? hk)
          have HB1 := Lib.hid (own_loads HOB.out (by rw [pickL_len]; exact HN3L.out))
          have HB2 := Lib.hid (own_loads HOP.out (by rw [pickL_len]; exact HNP.out))
          have HB3 := Lib.hid (own_loads HOQ.out (by rw [pickL_len]; exact HNQ.out))
          have HG1 := Lib.hid (fun W (hW : Adds wr W) => give_n pb cb n3 (pickL l0 L) W (HB1.out.later (HA2.out.trans hW)) (by rw [pickL_len]; exact HN3L.out) (by omega))
          have HG2 := Lib.hid (fun W (hW : Adds wr W) => give_n pp cp np (pickL l0 P) W (HB2.out.later (HA2.out.trans hW)) (by rw [pickL_len]; exact HNP.out) (by omega))
          have HG3 := Lib.hid (fun W (hW : Adds wr W) => give_n pq cq nq (pickL l0 Q) W (HB3.out.later hW) (by rw [pickL_len]; exact HNQ.out) (by omega))
          have HF1 := Lib.hid (fun q c W h => Fits_n q c n3 K (pickL l0 L) W h (by rw [pickL_len]; exact HN3L.out) (by omega) (hokT L HINN.out) (by omega) true (by simp only [true_iff]; exact hdL))
          have HF2 := Lib.hid (fun q c W h => Fits_n q c np K (pickL l0 P) W h (by rw [pickL_len]; exact HNP.out) (by omega) (hokT P hPb) (by omega) true (by simp only [true_iff]; exact hdP))
          have HF3 := Lib.hid (fun q c W h => Fits_n q c nq K (pickL l0 Q) W h (by rw [pickL_len]; exact HNQ.out) (by omega) (hokT Q hQb) (by omega) z hz)
          have HLE := Lib.hid hle
          have HA9 := Lib.hid ((HA3.out.trans HAD.out).trans HA2.out)
          clear hLn hPs hPn hQn hQb hPb hLG hfL hfP hdL hdP hz hle hokT HL3
          go_upto_region 25 with (first
            | (go_at_call 16; refine (HG1.out _ (Adds.refl _)).mono ?_; rintro e w5 ⟨c5, q5, rfl, hq5, hb5⟩; have HQ5 := Lib.hid hq5; have HB5 := Lib.hid hb5; clear hq5 hb5)
            | (go_at_call 15; refine (HF1.out _ _ _ HQ5.out).mono ?_; rintro e w6 ⟨rfl, hb6⟩; have HB6 := Lib.hid hb6; clear hb6))
          go_upto_region 26 with (first
            | (go_at_call 16; refine (HG2.out _ (HB5.out.trans HB6.out)).mono ?_; rintro e w7 ⟨c7, q7, rfl, hq7, hb7⟩; have HQ7 := Lib.hid hq7; have HB7 := Lib.hid hb7; clear hq7 hb7)
            | (go_at_call 15; refine (HF2.out _ _ _ HQ7.out).mono ?_; rintro e w8 ⟨rfl, hb8⟩; have HB8 := Lib.hid hb8; clear hb8))
          go_upto_region 27 with (first
            | (go_at_call 16; refine (HG3.out _ ((HB5.out.trans HB6.out).trans (HB7.out.trans HB8.out))).mono ?_; rintro e w9 ⟨c9, q9, rfl, hq9, hb9⟩; have HQ9 := Lib.hid hq9; have HB9 := Lib.hid hb9; clear hq9 hb9)
            | (go_at_call 15; refine (HF3.out _ _ _ HQ9.out).mono ?_; rintro e w10 ⟨rfl, hb10⟩; have HB10 := Lib.hid hb10; clear hb10))
          cases z
          · go_wp2_with (go_at_call 17; refine (awake_any _).mono ?_; rintro e w11 ⟨rfl, hb11⟩; have HB11 := Lib.hid hb11; clear hb11)
            go_ret
            exact ⟨rfl, (((HA9.out.trans (HB5.out.trans HB6.out)).trans (HB7.out.trans HB8.out)).trans (HB9.out.trans HB10.out)).trans HB11.out⟩
          · have hle := HLE.out rfl
            have hled : decide (s2 ≤ sm) = true := decide_eq_true hle
            go_wp2_with (go_at_call 17; refine (awake_any _).mono ?_; rintro e w11 ⟨rfl, hb11⟩; have HB11 := Lib.hid hb11; clear hb11)
            go_ret
            exact ⟨rfl, (((HA9.out.trans (HB5.out.trans HB6.out)).trans (HB7.out.trans HB8.out)).trans (HB9.out.trans HB10.out)).trans HB11.out⟩
end Go.Proofs.Ytkofnhimgegcnaa

namespace Go.Proofs.Ytkofnhimgegcnaa
open Go Go.RowKit Go.Sort

/-- A bound of all times. -/
theorem top_of (l : List Ld) : ∃ M : Nat, ∀ x ∈ l, x.2.1 ≤ (M : Int) := by
  induction l with
  | nil => exact ⟨0, fun x hx => by cases hx⟩
  | cons y l ih =>
    obtain ⟨M, hM⟩ := ih
    refine ⟨M + y.2.1.toNat, fun x hx => ?_⟩
    rcases List.mem_cons.1 hx with rfl | hx
    · omega
    · have := hM x hx; omega

/-- With more kilns. -/
theorem CanDry.more {l : List Ld} {K K' : Int} (w : World) (h : CanDry l K) (hok : ∀ x ∈ l, okN x) (hn : l.length ≤ 256) (hK0 : 0 ≤ K) (hKK : K ≤ K') (hK1 : K' ≤ 256) : CanDry l K' := by
  obtain ⟨M, hM⟩ := top_of l
  obtain ⟨g, hg⟩ := h.rota hok hK0 hM
  have h2 : Rota l K' M g := ⟨hg.bit, hg.inn, hg.len, fun t => by have := hg.few t; omega⟩
  exact h2.dry w hM hok hn (by omega) hK1

theorem later_get {l : List Ld} {d : Int} {i : Nat} {x : Ld} (h : (laterL l d)[i]? = some x) : ∃ y, l[i]? = some y ∧ x = (y.1, y.2.1 + d, y.2.2.1, y.2.2.2) := by
  unfold laterL at h
  rw [List.getElem?_map] at h
  obtain ⟨y, hy, rfl⟩ := Option.map_eq_some_iff.1 h
  exact ⟨y, hy, rfl⟩

/-- With later times. -/
theorem CanDry.late {l : List Ld} {K d e : Int} (w : World) (h : CanDry (laterL l d) K) (hok : ∀ x ∈ l, okB x = true) (hn : l.length ≤ 256) (hK0 : 0 ≤ K) (hK1 : K ≤ 256) (h0 : 0 ≤ d) (hde : d ≤ e) (he : e ≤ 256000000) : CanDry (laterL l e) K := by
  obtain ⟨M, hM⟩ := top_of (laterL l e)
  have hM2 : ∀ x ∈ laterL l d, x.2.1 ≤ (M : Int) := fun x hx => by
    unfold laterL at hx
    obtain ⟨y, hy, rfl⟩ := List.mem_map.1 hx
    have := hM (y.1, y.2.1 + e, y.2.2.1, y.2.2.2) (by unfold laterL; exact List.mem_map_of_mem hy)
    dsimp only at this ⊢
    omega
  obtain ⟨g, hg⟩ := h.rota (later_ok hok ⟨h0, by omega⟩) hK0 hM2
  have h2 : Rota (laterL l e) K M g := by
    refine ⟨hg.bit, fun i x t hx hne => ?_, fun i x hx => ?_, fun t => by have := hg.few t; rw [laterL_len] at this ⊢; exact this⟩
    · obtain ⟨y, hy, rfl⟩ := later_get hx
      have := hg.inn i (y.1, y.2.1 + d, y.2.2.1, y.2.2.2) t (by unfold laterL; rw [List.getElem?_map, hy]; rfl) hne
      dsimp only at this ⊢
      omega
    · obtain ⟨y, hy, rfl⟩ := later_get hx
      exact hg.len i (y.1, y.2.1 + d, y.2.2.1, y.2.2.2) (by unfold laterL; rw [List.getElem?_map, hy]; rfl)
  exact h2.dry w hM (later_ok hok ⟨by omega, he⟩) (by rw [laterL_len]; exact hn) hK0 hK1

theorem laterL_zero (l : List Ld) : laterL l 0 = l := by
  unfold laterL
  have : (fun x : Ld => (x.1, x.2.1 + 0, x.2.2.1, x.2.2.2)) = id := by
    funext x
    obtain ⟨a, b, c, e⟩ := x
    simp
  rw [this, List.map_id]

/-- A list without a place. -/
def lessL (l : List Ld) (x : Nat) : List Ld := l.take x ++ l.drop (x + 1)

theorem less_get {l : List Ld} {x : Nat} (hx : x < l.length) (i : Nat) : (lessL l x)[i]? = l[if i < x then i else i + 1]? := by
  unfold lessL
  by_cases h : i < x
  · rw [if_pos h, List.getElem?_append_left (by rw [List.length_take]; omega), List.getElem?_take, if_pos h]
  · rw [if_neg h, List.getElem?_append_right (by rw [List.length_take]; omega), List.length_take, List.getElem?_drop]
    congr 1
    omega
theorem less_len {l : List Ld} {x : Nat} (hx : x < l.length) : (lessL l x).length + 1 = l.length := by
  unfold lessL
  rw [List.length_append, List.length_take, List.length_drop]
  omega
theorem less_mem {l : List Ld} {x : Nat} : ∀ y ∈ lessL l x, y ∈ l := fun y hy => by
  unfold lessL at hy
  rcases List.mem_append.1 hy with h | h
  · exact List.mem_of_mem_take h
  · exact List.mem_of_mem_drop h

theorem sumN_less1 (f : Nat → Int) : ∀ {n x : Nat}, x < n + 1 → sumN (n + 1) f = sumN n (fun i => f (if i < x then i else i + 1)) + f x
  | 0, x, h => by
    have : x = 0 := by omega
    subst this
    simp [sumN]
  | n + 1, x, h => by
    by_cases hx : x < n + 1
    · have ih := sumN_less1 f (n := n) hx
      have e : sumN (n + 1 + 1) f = sumN (n + 1) f + f (n + 1) := rfl
      have e2 : sumN (n + 1) (fun i => f (if i < x then i else i + 1)) = sumN n (fun i => f (if i < x then i else i + 1)) + f (if n < x then n else n + 1) := rfl
      rw [e, e2, ih]
      by_cases hnx : n < x
      · have hx' : x = n + 1 := by omega
        omega
      · rw [if_neg hnx]; omega
    · have hx' : x = n + 1 := by omega
      subst hx'
      have e : sumN (n + 1 + 1) f = sumN (n + 1) f + f (n + 1) := rfl
      rw [e]
      congr 1
      exact sumN_congr (fun i hi => by rw [if_pos hi])

/-- Without a load. -/
theorem CanDry.less {l : List Ld} {K : Int} (w : World) (h : CanDry l K) (hok : ∀ x ∈ l, okN x) (hn : l.length ≤ 256) (hK0 : 0 ≤ K) (hK1 : K ≤ 256) {x : Nat} (hx : x < l.length) : CanDry (lessL l x) K := by
  obtain ⟨M, hM⟩ := top_of l
  obtain ⟨g, hg⟩ := h.rota hok hK0 hM
  have hl := less_len hx
  have h2 : Rota (lessL l x) K M (fun i t => g (if i < x then i else i + 1) t) := by
    refine ⟨fun i t => hg.bit _ t, fun i y t hy hne => ?_, fun i y hy => ?_, fun t => ?_⟩
    · rw [less_get hx] at hy
      exact hg.inn _ y t hy hne
    · rw [less_get hx] at hy
      exact hg.len _ y hy
    · have h3 := hg.few t
      rw [← hl, sumN_less1 (fun i => g i t) (by omega : x < (lessL l x).length + 1)] at h3
      have := hg.bit x t
      omega
  exact h2.dry w (fun y hy => hM y (less_mem y hy)) (fun y hy => hok y (less_mem y hy)) (by omega) hK0 hK1

/-- With a load and a kiln more. -/
theorem CanDry.add {l : List Ld} {K : Int} (w : World) {x : Nat} (hx : x < l.length) (h : CanDry (lessL l x) K) (hok : ∀ x ∈ l, okN x) (hn : l.length ≤ 256) (hK0 : 0 ≤ K) (hK1 : K + 1 ≤ 256) : CanDry l (K + 1) := by
  obtain ⟨M, hM⟩ := top_of l
  have hl := less_len hx
  obtain ⟨g, hg⟩ := h.rota (fun y hy => hok y (less_mem y hy)) hK0 (fun y hy => hM y (less_mem y hy))
  obtain ⟨a, ha⟩ : ∃ a, l[x]? = some a := ⟨_, List.getElem?_eq_getElem hx⟩
  have hoka := hok a (List.mem_of_getElem? ha)
  have hMa := hM a (List.mem_of_getElem? ha)
  unfold okN at hoka
  have hback : ∀ i y, i ≠ x → l[i]? = some y → (lessL l x)[if i < x then i else i - 1]? = some y := fun i y hi hy => by
    rw [less_get hx, ← hy]
    congr 1
    by_cases hix : i < x
    · rw [if_pos hix, if_pos hix]
    · rw [if_neg hix, if_neg (by omega)]; omega
  have h2 : Rota l (K + 1) M (fun i t => if i = x then (if a.1 ≤ (t : Int) ∧ (t : Int) < a.1 + a.2.2.1 then 1 else 0) else g (if i < x then i else i - 1) t) := by
    refine ⟨fun i t => ?_, fun i y t hy hne => ?_, fun i y hy => ?_, fun t => ?_⟩
    · by_cases hi : i = x
      · rw [if_pos hi]; split <;> omega
      · rw [if_neg hi]; exact hg.bit _ t
    · by_cases hi : i = x
      · rw [if_pos hi] at hne
        subst hi
        rw [ha] at hy
        cases hy
        split at hne
        · omega
        · exact absurd rfl hne
      · rw [if_neg hi] at hne
        exact hg.inn _ y t (hback i y hi hy) hne
    · by_cases hi : i = x
      · subst hi
        rw [ha] at hy
        cases hy
        have e : (fun t : Nat => if i = i then (if a.1 ≤ (t : Int) ∧ (t : Int) < a.1 + a.2.2.1 then (1 : Int) else 0) else g (if i < i then i else i - 1) t) = fun t : Nat => if a.1 ≤ (t : Int) ∧ (t : Int) < a.1 + a.2.2.1 then (1 : Int) else 0 := by
          funext t
          rw [if_pos rfl]
        have h3 : sumN M (fun t : Nat => if i = i then (if a.1 ≤ (t : Int) ∧ (t : Int) < a.1 + a.2.2.1 then (1 : Int) else 0) else g (if i < i then i else i - 1) t) = a.2.2.1 := by
          rw [e, sumN_span]
          omega
        exact h3
      · have e : (fun t : Nat => if i = x then (if a.1 ≤ (t : Int) ∧ (t : Int) < a.1 + a.2.2.1 then (1 : Int) else 0) else g (if i < x then i else i - 1) t) = g (if i < x then i else i - 1) := by
          funext t
          rw [if_neg hi]
        have h3 := hg.len _ y (hback i y hi hy)
        rw [← e] at h3
        exact h3
    · have h3 := hg.few t
      rw [← hl, sumN_less1 _ (by omega : x < (lessL l x).length + 1)]
      have e : sumN (lessL l x).length (fun i => (fun i : Nat => if i = x then (if a.1 ≤ (t : Int) ∧ (t : Int) < a.1 + a.2.2.1 then (1 : Int) else 0) else g (if i < x then i else i - 1) t) (if i < x then i else i + 1)) = sumN (lessL l x).length (fun i => g i t) := sumN_congr (fun i _ => by
        dsimp only
        by_cases hix : i < x
        · rw [if_pos hix, if_neg (by omega), if_pos hix]
        · rw [if_neg hix, if_neg (by omega), if_neg (by omega), Nat.add_sub_cancel])
      rw [e, if_pos rfl]
      split <;> omega
  exact h2.dry w hM hok hn (by omega) hK1

end Go.Proofs.Ytkofnhimgegcnaa

namespace Go.Proofs.Ytkofnhimgegcnaa
open Go Go.RowKit Go.Sort

/-- Loads that are later. -/
def lat1 (D : Nat) (x : Ld) : Ld := (x.1 + (D : Int), x.2.1 + (D : Int), x.2.2.1, x.2.2.2)
def shL (D : Nat) (l : List Ld) : List Ld := l.map (lat1 D)
theorem shL_len (D : Nat) (l : List Ld) : (shL D l).length = l.length := List.length_map _
theorem shL_get {D : Nat} {l : List Ld} {i : Nat} {y : Ld} (h : l[i]? = some y) : (shL D l)[i]? = some (lat1 D y) := by
  unfold shL
  rw [List.getElem?_map, h]
  rfl
theorem shL_some {D : Nat} {l : List Ld} {i : Nat} {x : Ld} (h : (shL D l)[i]? = some x) : ∃ y, l[i]? = some y ∧ x = lat1 D y := by
  unfold shL at h
  rw [List.getElem?_map] at h
  cases hy : l[i]? with
  | none => rw [hy] at h; cases h
  | some y => rw [hy] at h; exact ⟨y, rfl, (Option.some.inj h).symm⟩
theorem shL_mem {D : Nat} {l : List Ld} {x : Ld} (h : x ∈ shL D l) : ∃ y ∈ l, x = lat1 D y := by
  obtain ⟨y, h1, h2⟩ := List.mem_map.1 h
  exact ⟨y, h1, h2.symm⟩
theorem shL_okN {D : Nat} {l : List Ld} (hok : ∀ x ∈ l, okB x = true) (hD : D ≤ 1000) : ∀ x ∈ shL D l, okN x := fun x hx => by
  obtain ⟨y, hy, rfl⟩ := shL_mem hx
  have := okB_iff.1 (hok y hy)
  unfold okN lat1
  (try dsimp only)
  omega

theorem Rota.shift {l : List Ld} {K : Int} {M : Nat} {g : Nat → Nat → Int} (D : Nat) (R : Rota l K M g) (hK : 0 ≤ K) : Rota (shL D l) K (D + M) (fun i h => if h < D then 0 else g i (h - D)) where
  bit i h := by
    (try dsimp only)
    split
    · omega
    · exact R.bit i (h - D)
  inn i x h hx hg := by
    obtain ⟨y, hy, rfl⟩ := shL_some hx
    (try dsimp only at hg)
    by_cases c : h < D
    · rw [if_pos c] at hg; exact absurd rfl hg
    · rw [if_neg c] at hg
      have := R.inn i y (h - D) hy hg
      unfold lat1
      (try dsimp only)
      omega
  len i x hx := by
    obtain ⟨y, hy, rfl⟩ := shL_some hx
    have h1 := R.len i y hy
    rw [sumN_split, sumN_congr (n := D) (h := fun _ => 0) (fun k hk => if_pos hk), sumN_zero, sumN_congr (n := M) (h := g i) (fun k _ => by rw [if_neg (by omega)]; congr 1; omega), h1]
    unfold lat1
    (try dsimp only)
    omega
  few h := by
    rw [shL_len]
    by_cases c : h < D
    · rw [sumN_congr (n := l.length) (h := fun _ => 0) (fun k _ => if_pos c), sumN_zero]
      exact hK
    · rw [sumN_congr (n := l.length) (h := fun i => g i (h - D)) (fun k _ => if_neg c)]
      exact R.few (h - D)
theorem Rota.back {l : List Ld} {K : Int} {M D : Nat} {g : Nat → Nat → Int} (R : Rota (shL D l) K (D + M) g) (h0 : ∀ x ∈ l, 0 ≤ x.1) : Rota l K M (fun i h => g i (D + h)) where
  bit i h := R.bit i (D + h)
  inn i x h hx hg := by
    have := R.inn i _ (D + h) (shL_get hx) hg
    unfold lat1 at this
    (try dsimp only at this)
    omega
  len i x hx := by
    have h1 := R.len i _ (shL_get hx)
    have hx0 := h0 x (List.mem_of_getElem? hx)
    rw [sumN_split, sumN_congr (n := D) (h := fun _ => 0) (fun k hk => by
      apply Classical.byContradiction
      intro hc
      have := R.inn i _ k (shL_get hx) hc
      unfold lat1 at this
      (try dsimp only at this)
      omega), sumN_zero] at h1
    have e : (lat1 D x).2.2.1 = x.2.2.1 := rfl
    rw [e] at h1
    omega
  few h := by
    have := R.few (D + h)
    rw [shL_len] at this
    exact this
theorem can_shift (w : World) {l : List Ld} {K : Int} {D : Nat} (hok : ∀ x ∈ l, okB x = true) (hn : l.length ≤ 256) (hD : D ≤ 1000) (hK0 : 0 ≤ K) (hK1 : K ≤ 256) : CanDry (shL D l) K ↔ CanDry l K := by
  obtain ⟨M, hM⟩ := top_of l
  have hM2 : ∀ x ∈ shL D l, x.2.1 ≤ ((D + M : Nat) : Int) := fun x hx => by
    obtain ⟨y, hy, rfl⟩ := shL_mem hx
    have := hM y hy
    unfold lat1
    (try dsimp only)
    omega
  have hokN : ∀ x ∈ l, okN x := fun x hx => okB_okN (hok x hx)
  constructor
  · intro h
    obtain ⟨g, hg⟩ := h.rota (shL_okN hok hD) hK0 hM2
    exact (hg.back (fun x hx => (okB_iff.1 (hok x hx)).1)).dry w hM hokN hn hK0 hK1
  · intro h
    obtain ⟨g, hg⟩ := h.rota hokN hK0 hM
    exact (hg.shift D hK0).dry w hM2 (shL_okN hok hD) (by rw [shL_len]; exact hn) hK0 hK1

theorem least_same {P Q : Int → Prop} {lo hi r s : Int} (h1 : LeastGot P lo hi r) (h2 : LeastGot Q lo hi s) (he : ∀ k, lo ≤ k → k ≤ hi → (P k ↔ Q k)) (hm : ∀ a b, lo ≤ a → a ≤ b → b ≤ hi → P a → P b) : r = s := by
  obtain ⟨a1, a2, a3, a4⟩ := h1
  obtain ⟨b1, b2, b3, b4⟩ := h2
  apply Classical.byContradiction
  intro hne
  by_cases c : r < s
  · rcases b3 with e | e
    · omega
    · refine e ((he (s - 1) (by omega) (by omega)).1 (hm r (s - 1) a1 (by omega) (by omega) ?_))
      rcases a4 with e2 | e2
      · omega
      · exact e2
  · rcases a3 with e | e
    · omega
    · refine e (hm s (r - 1) b1 (by omega) (by omega) ?_)
      rcases b4 with e2 | e2
      · omega
      · exact (he s b1 b2).2 e2

theorem sh_r {l : List Ld} {D K i : Nat} (hok : ∀ x ∈ l, okB x = true) (hi : i < l.length) : (shOf (shL D l) K).r i = (shOf l K).r i + D ∧ (shOf (shL D l) K).d i = (shOf l K).d i + D := by
  obtain ⟨x, hx⟩ : ∃ x, l[i]? = some x := ⟨_, List.getElem?_eq_getElem hi⟩
  have hb := okB_iff.1 (hok x (List.mem_of_getElem? hx))
  have h1 := shOf_r (K := K) hx hb.1
  have h2 := shOf_d (K := K) hx (by omega)
  have h3 := shOf_r (K := K) (shL_get (D := D) hx) (by unfold lat1; (try dsimp only); omega)
  have h4 := shOf_d (K := K) (shL_get (D := D) hx) (by unfold lat1; (try dsimp only); omega)
  unfold lat1 at h3 h4
  (try dsimp only at h3 h4)
  omega
theorem sh_at {l : List Ld} {D K : Nat} {S : Nat → Bool} {t u : Nat → Nat} {g h : Nat} (he : ∀ i, i < l.length → S i = true → (u i = g ↔ t i = h)) : (shOf (shL D l) K).at S u g = (shOf l K).at S t h := by
  show cntN (shL D l).length _ = cntN l.length _
  rw [shL_len]
  refine cntN_congr fun i hi => ?_
  cases c : S i with
  | false => rfl
  | true =>
    have := he i hi c
    rw [Bool.true_and, Bool.true_and, Bool.eq_iff_iff, beq_iff_eq, beq_iff_eq]
    exact this
theorem fit_shift {l : List Ld} {D K : Nat} {S : Nat → Bool} (hok : ∀ x ∈ l, okB x = true) : (shOf (shL D l) K).Fit S ↔ (shOf l K).Fit S := by
  constructor
  · rintro ⟨t, h1, h2⟩
    have hb : ∀ i, i < l.length → S i = true → (shOf l K).r i + D ≤ t i ∧ t i < (shOf l K).d i + D := fun i hi hS => by
      have := h1 i (by rw [shOf_n, shL_len]; exact hi) hS
      have := sh_r (D := D) (K := K) hok hi
      omega
    refine ⟨fun i => t i - D, fun i hi hS => ?_, fun h => ?_⟩
    · have := hb i hi hS
      (try dsimp only)
      omega
    · rw [← sh_at (D := D) (u := t) (g := h + D) (fun i hi hS => by have := hb i hi hS; (try dsimp only); omega)]
      exact h2 (h + D)
  · rintro ⟨t, h1, h2⟩
    refine ⟨fun i => t i + D, fun i hi hS => ?_, fun h => ?_⟩
    · rw [shOf_n, shL_len] at hi
      have := h1 i hi hS
      have := sh_r (D := D) (K := K) hok hi
      (try dsimp only)
      omega
    · by_cases c : h < D
      · have e := sh_at (D := D) (l := l) (K := K) (S := fun _ => false) (t := t) (u := fun i => t i + D) (g := h) (h := h) (fun _ _ hS => by cases hS)
        have e2 : (shOf (shL D l) K).at S (fun i => t i + D) h = (shOf (shL D l) K).at (fun _ => false) (fun i => t i + D) h := by
          show cntN _ _ = cntN _ _
          refine cntN_congr fun i _ => ?_
          have : (t i + D == h) = false := beq_eq_false_iff_ne.2 (by omega)
          rw [this]
          simp
        rw [e2, e]
        have e3 : (shOf l K).at (fun _ => false) t h = 0 := by
          show cntN l.length _ = 0
          exact cntN_none fun i _ => by simp
        omega
      · rw [sh_at (D := D) (t := t) (h := h - D) (fun i _ _ => by (try dsimp only); omega)]
        exact h2 (h - D)
theorem greedy_shift {l : List Ld} {D K : Nat} {O : List Nat} {G : Nat → Bool} (hok : ∀ x ∈ l, okB x = true) (h : (shOf l K).Greedy O G) : (shOf (shL D l) K).Greedy O G :=
  ⟨h.inn, fun j i hj => (h.all j i hj).trans (fit_shift hok).symm⟩
theorem wOf_shift (D : Nat) (l : List Ld) : wOf (shL D l) = wOf l := by
  funext i
  cases hy : l[i]? with
  | none =>
    have : (shL D l)[i]? = none := List.getElem?_eq_none (by rw [shL_len]; exact List.getElem?_eq_none_iff.1 hy)
    unfold wOf
    rw [hy, this]
  | some y =>
    rw [wOf_get hy, wOf_get (shL_get hy)]
    rfl
theorem best_shift {l : List Ld} {D K : Nat} {G : Nat → Bool} (hok : ∀ x ∈ l, okB x = true) (h : BestOK l K G) : BestOK (shL D l) K G := by
  obtain ⟨X, h1, h2⟩ := h
  refine ⟨X, ?_, ?_⟩
  · rw [wOf_shift, shL_len]; exact h1
  · rw [shL_len]; exact greedy_shift hok h2
theorem full_shift {l : List Ld} {D K : Nat} {W : Nat → Bool} {t : Nat → Nat} (hok : ∀ x ∈ l, okB x = true) (h : (shOf l K).Full W t) : (shOf (shL D l) K).Full W (fun i => t i + D) := by
  have hat : ∀ g, D ≤ g → (shOf (shL D l) K).at W (fun i => t i + D) g = (shOf l K).at W t (g - D) := fun g hg => sh_at (fun i _ _ => by (try dsimp only); omega)
  refine ⟨fun i hi hW => ?_, fun g => ?_, fun i hi hW g h1 h2 => ?_, fun i hi hW => ?_⟩
  · rw [shOf_n, shL_len] at hi
    have := h.rdy i hi hW
    have := sh_r (D := D) (K := K) hok hi
    (try dsimp only)
    omega
  · by_cases c : g < D
    · have e : (shOf (shL D l) K).at W (fun i => t i + D) g = 0 := by
        show cntN _ _ = 0
        refine cntN_none fun i _ => ?_
        have : (t i + D == g) = false := beq_eq_false_iff_ne.2 (by omega)
        rw [this]
        simp
      omega
    · rw [hat g (by omega)]
      exact h.few (g - D)
  · rw [shOf_n, shL_len] at hi
    have hr := sh_r (D := D) (K := K) hok hi
    (try dsimp only at h2)
    have k := h.gre i hi hW (g - D) (by omega) (by omega)
    refine ⟨by rw [hat g (by omega)]; exact k.1, fun j hj hWj hjg => ?_⟩
    rw [shOf_n, shL_len] at hj
    have hs := sh_r (D := D) (K := K) hok hj
    (try dsimp only at hjg)
    have := k.2 j hj hWj (by omega)
    unfold Sh.lt at this ⊢
    omega
  · rw [shOf_n, shL_len] at hi
    have := h.tim i hi hW
    have := sh_r (D := D) (K := K) hok hi
    (try dsimp only)
    omega
end Go.Proofs.Ytkofnhimgegcnaa

namespace Go.Proofs.Ytkofnhimgegcnaa
open Go Go.RowKit Go.Sort

/-- When a load is due that tame has made valid. -/
def due2 (x : Ld) : Int := if okB x = true then x.2.1 else wrap64 ((IntKind.u64.wrap x.1).tmod 12) + 1 + wrap64 ((IntKind.u64.wrap x.2.1).tmod 8)
/-- Of a row, the first k are tamed. -/
def DueTo (m L : List Ld) (k : Nat) : Prop := ∀ (i : Nat) (x : Ld), L[i]? = some x → ∃ z, m[i]? = some z ∧ (i < k → x.2.1 = due2 z) ∧ (k ≤ i → x = z)
theorem due_next {m L : List Ld} {k : Nat} {x y : Ld} (h : DueTo m L k) (hx : L[k]? = some x) (hy : y.2.1 = due2 x) : DueTo m (L.set k y) (k + 1) := fun i u hu => by
  by_cases e : i = k
  · subst e
    rw [List.getElem?_set_self', hx] at hu
    obtain ⟨z, h1, _, h3⟩ := h i x hx
    have hz := h3 (Nat.le_refl _)
    simp at hu
    subst hu hz
    exact ⟨x, h1, fun _ => hy, fun h => by omega⟩
  · rw [List.getElem?_set_ne (fun h => e h.symm)] at hu
    obtain ⟨z, h1, h2, h3⟩ := h i u hu
    exact ⟨z, h1, fun h => h2 (by omega), fun h => h3 (by omega)⟩

set_option maxRecDepth 100000 in
set_option maxHeartbeats 2000000 in
theorem tame_due (p : Option Addr) (cl most : Nat) (sh : Bool) (l : List Ld) (w : World) (hL : LoadsAt w p l) (hm : most ≤ 1000) (hcl : l.length ≤ cl) (hmx : cl ≤ maxLen) :
    Calls Try.prog 13 #[.slice p l.length cl, .int .i64 most, .bool sh] w fun e w' => ∃ (c : Nat) (q : Option Addr) (l' : List Ld), l'.length = min most l.length ∧ (∀ x ∈ l', tamed sh x) ∧ (∀ (i : Nat) (x : Ld), l'[i]? = some x → ∃ z, (l.take most)[i]? = some z ∧ x.2.1 = due2 z) ∧ e = .returned (.slice q l'.length c) ∧ Loads w' 72 w.heap.size (.slice q l'.length c) l' ∧ Adds w w' := by
  have hsome := some_any p cl most l w hL hm hcl hmx
  obtain ⟨m, hm2⟩ : ∃ m, m = l.take most := ⟨_, rfl⟩
  have hmn : m.length = min most l.length := by rw [hm2, List.length_take]
  rw [← hm2] at hsome ⊢
  rw [← hmn]
  obtain ⟨n, hn⟩ : ∃ n, n = m.length := ⟨_, rfl⟩
  rw [← hn] at hsome ⊢
  have hnb : n ≤ 1000 := by omega
  have HN := Lib.hid hn
  generalize l.length = N at *
  clear hL hmn hm2 hn hmx hcl
  go_enter Try.func13, Try.ntmps13
  go_upto_region 3 with (go_at_call 38; refine hsome.mono ?_; rintro e w1 ⟨c, q, rfl, hr, hb1⟩; have HR := Lib.hid hr; have HB1 := Lib.hid hb1; clear hr hb1)
  have HR' : Hid (w1.ownsRow w.heap.size 72 4 (.slice q n c) n (m.flatMap enc4)) := Lib.hid (by have := HR.out; unfold Loads at this; rw [← HN.out] at this; exact this)
  clear HR hsome
  go_loopw [8] (fun v8 wr => ∃ (k : Nat) (L : List Ld), k ≤ n ∧ v8 = .int .i64 k ∧ L.length = n ∧ Hid (wr.ownsRow w.heap.size 72 4 (.slice q n c) n (L.flatMap enc4)) ∧ Hid (∀ i x, i < k → L[i]? = some x → tamed sh x) ∧ Hid (DueTo m L k) ∧ Hid (Adds w wr)) (fun v8 _ => n - (intOf v8).toNat)
  case atStart => exact ⟨0, m, by omega, rfl, HN.out.symm, HR', Lib.hid (fun i x hi => by omega), Lib.hid (fun i x h => ⟨x, h, fun h => by omega, fun _ => rfl⟩), HB1⟩
  case round =>
    obtain ⟨k, L, hk, rfl, hLn, HO, HG, HDT, HAD⟩ := hrel
    by_cases hlt : k < n
    · have hlt2 : (k : Int) < (n : Int) := by omega
      obtain ⟨g, c', e, hbg⟩ := own_some HO.out (by omega)
      injection e with e1 e2 e3
      subst e1
      clear e2 e3
      obtain ⟨⟨x0, x1, x2, x3⟩, hx⟩ : ∃ x, L[k]? = some x := ⟨_, List.getElem?_eq_getElem (by omega)⟩
      obtain ⟨f0, f1, f2, f3⟩ := flat4_cell k _ hx
      have d0 := (own_cell HO.out f0).1
      have d1 := (own_cell HO.out f1).1
      have d2 := (own_cell HO.out f2).1
      have d3 := (own_cell HO.out f3).1
      dsimp only at d0 d1 d2 d3
      clear f0 f1 f2 f3
      go_upto_region 6 with fail
      have hws := HAD.out.size
      have hgl : g < wr.heap.size := by obtain ⟨_, _, e⟩ := own_block HO.out (show Value.ownBlock _ = some g from rfl); exact (Array.getElem?_eq_some_iff.1 e).1
      obtain ⟨xb, hxb⟩ : ∃ b, b = wr.heap.size := ⟨_, rfl⟩
      obtain ⟨W2, hW2⟩ : ∃ V, V = wr.alloc (.cells #[.int .i64 x0, .int .i64 x1, .int .i64 x2, .int .i64 x3] 72) := ⟨_, rfl⟩
      rw [← hW2, ← hxb]
      have hA2 : Adds wr W2 := by rw [hW2]; exact (Adds.refl _).alloc _
      have HX2 : Hid (Box W2 xb #[.int .i64 x0, .int .i64 x1, .int .i64 x2, .int .i64 x3] 72) := Lib.hid (by rw [hW2, hxb]; exact Box.new _ _ _)
      have HO2 := Lib.hid (own_same (w' := W2) HO.out (fun q hq => hA2.block q (by obtain ⟨_, _, e⟩ := own_block HO.out hq; exact (Array.getElem?_eq_some_iff.1 e).1)))
      have HA2 := Lib.hid (HAD.out.trans hA2)
      have hgx : g ≠ xb := by omega
      have hwx : w.heap.size ≤ xb := by omega
      have HX := Lib.hid hx
      clear hA2 hW2 hxb HO HAD d0 d1 d2 d3 hx hgl
      have hchk := RCheck_any (some ⟨W2.heap.size, 0, none⟩) 1 [(x0, x1, x2, x3)] (W2.alloc (.cells #[.int .i64 x0, .int .i64 x1, .int .i64 x2, .int .i64 x3] 72)) (fun i x hx => by
        have hi : i = 0 := by have := (List.getElem?_eq_some_iff.1 hx).1; simp at this; omega
        subst hi
        simp at hx
        subst hx
        have hb := Box.new W2 #[.int .i64 x0, .int .i64 x1, .int .i64 x2, .int .i64 x3] 72
        exact ⟨W2.heap.size, 0, rfl, hb.cell 0, hb.cell 1, hb.cell 2, hb.cell 3⟩) (by unfold maxLen; simp)
      rw [check_one] at hchk
      have HCH := Lib.hid hchk
      clear hchk
      have xx0 : W2.cell? ⟨xb, 0, none⟩ = some (.int .i64 x0) := HX2.out.cell 0
      have xx1 : W2.cell? ⟨xb, 1, none⟩ = some (.int .i64 x1) := HX2.out.cell 1
      have xx2 : W2.cell? ⟨xb, 2, none⟩ = some (.int .i64 x2) := HX2.out.cell 2
      have xx3 : W2.cell? ⟨xb, 3, none⟩ = some (.int .i64 x3) := HX2.out.cell 3
      cases hb : okB (x0, x1, x2, x3)
      · rw [hb, if_neg (by simp)] at HCH
        have HBF := Lib.hid hb
        clear hb
        go_upto_region 7 with (go_at_call 26; refine HCH.out.mono ?_; rintro e w3 ⟨rfl, ha3⟩; have HA3 := Lib.hid ha3; clear ha3)
        have ha : Adds W2 w3 := ((Adds.refl W2).alloc _).trans HA3.out
        have HX3 := Lib.hid (HX2.out.later ha)
        have HO3 := Lib.hid (own_same (w' := w3) HO2.out (fun q hq => ha.block q (by obtain ⟨_, _, e⟩ := own_block HO2.out hq; exact (Array.getElem?_eq_some_iff.1 e).1)))
        have HA3' := Lib.hid (HA2.out.trans ha)
        clear ha HA3 xx0 xx1 xx2 xx3 HX2 HO2 HA2 HCH
        have xx0 : w3.cell? ⟨xb, 0, none⟩ = some (.int .i64 x0) := HX3.out.cell 0
        have ff0 : w3.frozen? ⟨xb, 0, none⟩ = false := HX3.out.free 0
        go_upto_region 8 with fail
        obtain ⟨a0, a1⟩ := wmod x0 12 (by omega) (by omega)
        obtain ⟨y0, hy0⟩ : ∃ y, y = wrap64 ((IntKind.u64.wrap x0).tmod 12) := ⟨_, rfl⟩
        rw [← hy0] at a0 a1 ⊢
        have HY0 := Lib.hid hy0
        clear hy0
        obtain ⟨V1, hV1⟩ : ∃ V, V = w3.setCell ⟨xb, 0, none⟩ (.int .i64 y0) := ⟨_, rfl⟩
        rw [← hV1]
        have HV1 : Hid (Box V1 xb #[.int .i64 y0, .int .i64 x1, .int .i64 x2, .int .i64 x3] 72) := Lib.hid (by rw [hV1]; exact HX3.out.set 0 _)
        have HR1 : Hid (∀ i, i ≠ xb → V1.heap[i]? = w3.heap[i]?) := Lib.hid (fun i hi => by rw [hV1]; exact Below.heap_setCell _ _ _ _ hi)
        have HB1' : Hid (Adds w V1) := Lib.hid (by rw [hV1]; exact HA3'.out.set (p := ⟨xb, 0, none⟩) hwx _)
        clear hV1 xx0 ff0 HX3 HA3'
        have xx0 : V1.cell? ⟨xb, 0, none⟩ = some (.int .i64 y0) := HV1.out.cell 0
        have xx1 : V1.cell? ⟨xb, 1, none⟩ = some (.int .i64 x1) := HV1.out.cell 1
        have ff1 : V1.frozen? ⟨xb, 1, none⟩ = false := HV1.out.free 1
        go_upto_region 9 with fail
        obtain ⟨b0, b1⟩ := wmod x1 8 (by omega) (by omega)
        obtain ⟨z1, hz1⟩ : ∃ y, y = wrap64 ((IntKind.u64.wrap x1).tmod 8) := ⟨_, rfl⟩
        rw [← hz1] at b0 b1 ⊢
        have hyw : wrap64 (y0 + 1 + z1) = y0 + 1 + z1 := by unfold wrap64; omega
        rw [hyw]
        obtain ⟨y1, hy1⟩ : ∃ y, y = y0 + 1 + z1 := ⟨_, rfl⟩
        rw [← hy1]
        have c0 : y0 < y1 := by omega
        have c1 : y1 ≤ y0 + 8 := by omega
        have HDU : Hid (y1 = due2 (x0, x1, x2, x3)) := Lib.hid (by unfold due2; rw [if_neg (by rw [HBF.out]; simp), hy1, hz1, HY0.out])
        clear hz1 hyw hy1 b0 b1
        obtain ⟨V2, hV2⟩ : ∃ V, V = V1.setCell ⟨xb, 1, none⟩ (.int .i64 y1) := ⟨_, rfl⟩
        rw [← hV2]
        have HV2 : Hid (Box V2 xb #[.int .i64 y0, .int .i64 y1, .int .i64 x2, .int .i64 x3] 72) := Lib.hid (by rw [hV2]; exact HV1.out.set 1 _)
        have HR2 : Hid (∀ i, i ≠ xb → V2.heap[i]? = w3.heap[i]?) := Lib.hid (fun i hi => by rw [hV2]; exact (Below.heap_setCell _ _ _ _ hi).trans (HR1.out i hi))
        have HB2' : Hid (Adds w V2) := Lib.hid (by rw [hV2]; exact HB1'.out.set (p := ⟨xb, 1, none⟩) hwx _)
        clear hV2 xx0 xx1 ff1 HV1 HR1 HB1'
        have xx0 : V2.cell? ⟨xb, 0, none⟩ = some (.int .i64 y0) := HV2.out.cell 0
        have xx1 : V2.cell? ⟨xb, 1, none⟩ = some (.int .i64 y1) := HV2.out.cell 1
        have xx2 : V2.cell? ⟨xb, 2, none⟩ = some (.int .i64 x2) := HV2.out.cell 2
        have ff2 : V2.frozen? ⟨xb, 2, none⟩ = false := HV2.out.free 2
        obtain ⟨d, hd⟩ : ∃ y, y = y1 - y0 := ⟨_, rfl⟩
        have hu : IntKind.u64.wrap (y1 - y0) = d := by rw [u64_small (by omega) (by omega), hd]
        have hd0 : 0 < d := by omega
        have hd8 : d ≤ 8 := by omega
        have hdz : (d == 0) = false := by simp; omega
        go_upto_region 10 with fail
        obtain ⟨b0, b1⟩ := wmod x2 (y1 - y0) (by omega) (by omega)
        obtain ⟨z2, hz2⟩ : ∃ y, y = wrap64 ((IntKind.u64.wrap x2).tmod (y1 - y0)) := ⟨_, rfl⟩
        rw [← hz2] at b0 b1 ⊢
        have hyw : wrap64 (1 + z2) = 1 + z2 := by unfold wrap64; omega
        rw [hyw]
        obtain ⟨y2, hy2⟩ : ∃ y, y = 1 + z2 := ⟨_, rfl⟩
        rw [← hy2]
        have e0 : 1 ≤ y2 := by omega
        have e1 : y2 ≤ y1 - y0 := by omega
        clear hz2 hyw hy2 b0 b1 hu hdz hd0 hd8 hd
        obtain ⟨V3, hV3⟩ : ∃ V, V = V2.setCell ⟨xb, 2, none⟩ (.int .i64 y2) := ⟨_, rfl⟩
        rw [← hV3]
        have HV3 : Hid (Box V3 xb #[.int .i64 y0, .int .i64 y1, .int .i64 y2, .int .i64 x3] 72) := Lib.hid (by rw [hV3]; exact HV2.out.set 2 _)
        have HR3 : Hid (∀ i, i ≠ xb → V3.heap[i]? = w3.heap[i]?) := Lib.hid (fun i hi => by rw [hV3]; exact (Below.heap_setCell _ _ _ _ hi).trans (HR2.out i hi))
        have HB3' : Hid (Adds w V3) := Lib.hid (by rw [hV3]; exact HB2'.out.set (p := ⟨xb, 2, none⟩) hwx _)
        clear hV3 xx0 xx1 xx2 ff2 HV2 HR2 HB2'
        have xx3 : V3.cell? ⟨xb, 3, none⟩ = some (.int .i64 x3) := HV3.out.cell 3
        have ff3 : V3.frozen? ⟨xb, 3, none⟩ = false := HV3.out.free 3
        go_upto_region 11 with fail
        obtain ⟨g0, g1⟩ := wmod x3 20 (by omega) (by omega)
        obtain ⟨y3, hy3⟩ : ∃ y, y = wrap64 ((IntKind.u64.wrap x3).tmod 20) := ⟨_, rfl⟩
        rw [← hy3] at g0 g1 ⊢
        clear hy3
        obtain ⟨V4, hV4⟩ : ∃ V, V = V3.setCell ⟨xb, 3, none⟩ (.int .i64 y3) := ⟨_, rfl⟩
        rw [← hV4]
        have HV4 : Hid (Box V4 xb #[.int .i64 y0, .int .i64 y1, .int .i64 y2, .int .i64 y3] 72) := Lib.hid (by rw [hV4]; exact HV3.out.set 3 _)
        have HR4 : Hid (∀ i, i ≠ xb → V4.heap[i]? = w3.heap[i]?) := Lib.hid (fun i hi => by rw [hV4]; exact (Below.heap_setCell _ _ _ _ hi).trans (HR3.out i hi))
        have HB4' : Hid (Adds w V4) := Lib.hid (by rw [hV4]; exact HB3'.out.set (p := ⟨xb, 3, none⟩) hwx _)
        have HO4 := Lib.hid (own_same (w' := V4) HO3.out (fun q hq => HR4.out q (by have : q = g := by simpa [Value.ownBlock] using hq.symm
                                                                                    rw [this]; exact hgx)))
        clear hV4 xx3 ff3 HV3 HR3 HB3'
        have HOK : Hid (okB (y0, y1, y2, y3) = true) := Lib.hid (by rw [okB_iff]; dsimp only; omega)
        have HOK1 : Hid (okB (y0, y1, 1, y3) = true) := Lib.hid (by rw [okB_iff]; dsimp only; omega)
        cases sh
        · skip
          have xx0 : V4.cell? ⟨xb, 0, none⟩ = some (.int .i64 y0) := HV4.out.cell 0
          have xx1 : V4.cell? ⟨xb, 1, none⟩ = some (.int .i64 y1) := HV4.out.cell 1
          have xx2 : V4.cell? ⟨xb, 2, none⟩ = some (.int .i64 y2) := HV4.out.cell 2
          have xx3 : V4.cell? ⟨xb, 3, none⟩ = some (.int .i64 y3) := HV4.out.cell 3
          have ff2 : V4.frozen? ⟨xb, 2, none⟩ = false := HV4.out.free 2
          obtain ⟨f0, f1, f2, f3⟩ := flat4_cell k _ HX.out
          have q0 := own_cell HO4.out f0
          have q1 := own_cell HO4.out f1
          have q2 := own_cell HO4.out f2
          have q3 := own_cell HO4.out f3
          obtain ⟨d0, h0⟩ := q0
          obtain ⟨d1, h1⟩ := q1
          obtain ⟨d2, h2⟩ := q2
          obtain ⟨d3, h3⟩ := q3
          dsimp only at d0 d1 d2 d3
          clear f0 f1 f2 f3
          go_wp2
          refine ⟨⟨k + 1, L.set k (y0, y1, y2, y3), by omega, by go_num, by rw [List.length_set]; exact hLn, Lib.hid (put4 HO4.out (by omega) (y0, y1, y2, y3)), Lib.hid (tam_next HG.out ⟨HOK.out, fun h => by cases h⟩), Lib.hid (due_next HDT.out HX.out HDU.out), Lib.hid (put4_adds HB4'.out hbg (y0, y1, y2, y3))⟩, by simp [intOf]; omega⟩
        · skip
          have xx0 : V4.cell? ⟨xb, 0, none⟩ = some (.int .i64 y0) := HV4.out.cell 0
          have xx1 : V4.cell? ⟨xb, 1, none⟩ = some (.int .i64 y1) := HV4.out.cell 1
          have xx2 : V4.cell? ⟨xb, 2, none⟩ = some (.int .i64 y2) := HV4.out.cell 2
          have xx3 : V4.cell? ⟨xb, 3, none⟩ = some (.int .i64 y3) := HV4.out.cell 3
          have ff2 : V4.frozen? ⟨xb, 2, none⟩ = false := HV4.out.free 2
          obtain ⟨f0, f1, f2, f3⟩ := flat4_cell k _ HX.out
          have q0 := own_cell HO4.out f0
          have q1 := own_cell HO4.out f1
          have q2 := own_cell HO4.out f2
          have q3 := own_cell HO4.out f3
          obtain ⟨d0, h0⟩ := q0
          obtain ⟨d1, h1⟩ := q1
          obtain ⟨d2, h2⟩ := q2
          obtain ⟨d3, h3⟩ := q3
          dsimp only at d0 d1 d2 d3
          clear f0 f1 f2 f3
          go_wp2
          refine ⟨⟨k + 1, L.set k (y0, y1, 1, y3), by omega, by go_num, by rw [List.length_set]; exact hLn, Lib.hid (put4 (w := V4.setCell ⟨xb, 2, none⟩ (.int .i64 1)) (own_same HO4.out (fun q hq => ?_)) (by omega) (y0, y1, 1, y3)), Lib.hid (tam_next HG.out ⟨HOK1.out, fun _ => rfl⟩), Lib.hid (due_next HDT.out HX.out HDU.out), Lib.hid (put4_adds (w := V4.setCell ⟨xb, 2, none⟩ (.int .i64 1)) (HB4'.out.set (p := ⟨xb, 2, none⟩) hwx _) hbg (y0, y1, 1, y3))⟩, by simp [intOf]; omega⟩
          have : q = g := by simpa [Value.ownBlock] using hq.symm
          exact Below.heap_setCell _ _ _ _ (by rw [this]; exact hgx)
      · have HB := Lib.hid hb
        rw [hb, if_pos rfl] at HCH
        clear hb
        go_upto_region 11 with (go_at_call 26; refine HCH.out.mono ?_; rintro e w3 ⟨rfl, ha3⟩; have HA3 := Lib.hid ha3; clear ha3)
        have ha : Adds W2 w3 := ((Adds.refl W2).alloc _).trans HA3.out
        have HX3 := Lib.hid (HX2.out.later ha)
        have HO3 := Lib.hid (own_same (w' := w3) HO2.out (fun q hq => ha.block q (by obtain ⟨_, _, e⟩ := own_block HO2.out hq; exact (Array.getElem?_eq_some_iff.1 e).1)))
        have HA3' := Lib.hid (HA2.out.trans ha)
        clear ha HA3 xx0 xx1 xx2 xx3 HX2 HO2 HA2 HCH
        cases sh
        · skip
          have xx0 : w3.cell? ⟨xb, 0, none⟩ = some (.int .i64 x0) := HX3.out.cell 0
          have xx1 : w3.cell? ⟨xb, 1, none⟩ = some (.int .i64 x1) := HX3.out.cell 1
          have xx2 : w3.cell? ⟨xb, 2, none⟩ = some (.int .i64 x2) := HX3.out.cell 2
          have xx3 : w3.cell? ⟨xb, 3, none⟩ = some (.int .i64 x3) := HX3.out.cell 3
          have ff2 : w3.frozen? ⟨xb, 2, none⟩ = false := HX3.out.free 2
          obtain ⟨f0, f1, f2, f3⟩ := flat4_cell k _ HX.out
          have q0 := own_cell HO3.out f0
          have q1 := own_cell HO3.out f1
          have q2 := own_cell HO3.out f2
          have q3 := own_cell HO3.out f3
          obtain ⟨d0, g0⟩ := q0
          obtain ⟨d1, g1⟩ := q1
          obtain ⟨d2, g2⟩ := q2
          obtain ⟨d3, g3⟩ := q3
          dsimp only at d0 d1 d2 d3
          clear f0 f1 f2 f3
          go_wp2
          refine ⟨⟨k + 1, L.set k (x0, x1, x2, x3), by omega, by go_num, by rw [List.length_set]; exact hLn, Lib.hid (put4 HO3.out (by omega) (x0, x1, x2, x3)), Lib.hid (tam_next HG.out ⟨HB.out, fun h => by cases h⟩), Lib.hid (due_next HDT.out HX.out (by unfold due2; rw [if_pos HB.out])), Lib.hid (put4_adds HA3'.out hbg (x0, x1, x2, x3))⟩, by simp [intOf]; omega⟩
        · skip
          have xx0 : w3.cell? ⟨xb, 0, none⟩ = some (.int .i64 x0) := HX3.out.cell 0
          have xx1 : w3.cell? ⟨xb, 1, none⟩ = some (.int .i64 x1) := HX3.out.cell 1
          have xx2 : w3.cell? ⟨xb, 2, none⟩ = some (.int .i64 x2) := HX3.out.cell 2
          have xx3 : w3.cell? ⟨xb, 3, none⟩ = some (.int .i64 x3) := HX3.out.cell 3
          have ff2 : w3.frozen? ⟨xb, 2, none⟩ = false := HX3.out.free 2
          obtain ⟨f0, f1, f2, f3⟩ := flat4_cell k _ HX.out
          have q0 := own_cell HO3.out f0
          have q1 := own_cell HO3.out f1
          have q2 := own_cell HO3.out f2
          have q3 := own_cell HO3.out f3
          obtain ⟨d0, g0⟩ := q0
          obtain ⟨d1, g1⟩ := q1
          obtain ⟨d2, g2⟩ := q2
          obtain ⟨d3, g3⟩ := q3
          dsimp only at d0 d1 d2 d3
          clear f0 f1 f2 f3
          go_wp2
          have hB := HB.out
          rw [okB_iff] at hB
          dsimp only at hB
          refine ⟨⟨k + 1, L.set k (x0, x1, 1, x3), by omega, by go_num, by rw [List.length_set]; exact hLn, Lib.hid (put4 (w := w3.setCell ⟨xb, 2, none⟩ (.int .i64 1)) (own_same HO3.out (fun q hq => ?_)) (by omega) (x0, x1, 1, x3)), Lib.hid (tam_next HG.out ⟨?_, fun _ => rfl⟩), Lib.hid (due_next HDT.out HX.out (by unfold due2; rw [if_pos HB.out])), Lib.hid (put4_adds (w := w3.setCell ⟨xb, 2, none⟩ (.int .i64 1)) (HA3'.out.set (p := ⟨xb, 2, none⟩) hwx _) hbg (x0, x1, 1, x3))⟩, by simp [intOf]; omega⟩
          · have : q = g := by simpa [Value.ownBlock] using hq.symm
            exact Below.heap_setCell _ _ _ _ (by rw [this]; exact hgx)
          · rw [okB_iff]; dsimp only; omega
    · have hkn : n = k := by omega
      subst hkn
      go_wp2
      go_ret
      refine ⟨c, q, L, hLn, fun x hx => ?_, fun i x hx => ?_, by rw [hLn]; rfl, ?_, HAD.out⟩
      · obtain ⟨i, hi⟩ := List.mem_iff_getElem?.1 hx
        exact HG.out i x (by have := (List.getElem?_eq_some_iff.1 hi).1; omega) hi
      · obtain ⟨z, h1, h2, _⟩ := HDT.out i x hx
        exact ⟨z, h1, h2 (by have := (List.getElem?_eq_some_iff.1 hx).1; omega)⟩
      · unfold Loads
        rw [hLn]
        exact HO.out

end Go.Proofs.Ytkofnhimgegcnaa

namespace Go.Proofs.Ytkofnhimgegcnaa
open Go Go.RowKit Go.Sort Go.Maps

theorem shL_flat {D i : Nat} {l : List Ld} {x : Ld} (h : l[i]? = some x) : (shL D (l.take (i + 1))).flatMap enc4 = (shL D (l.take i)).flatMap enc4 ++ [.int .i64 (x.1 + (D : Int)), .int .i64 (x.2.1 + (D : Int)), .int .i64 x.2.2.1, .int .i64 x.2.2.2] := by
  obtain ⟨h1, h2⟩ := List.getElem?_eq_some_iff.1 h
  unfold shL
  rw [List.take_succ_eq_append_getElem h1, h2, List.map_append, List.flatMap_append]
  rfl

theorem box_two (wr : World) (A B : Array Value) : Box ((wr.alloc (.cells A 72)).alloc (.cells B 72)).drew (wr.heap.size + 1) B 72 := by
  have h := (Box.new (wr.alloc (.cells A 72)) B 72).later ((Adds.refl _).drew)
  have e : (wr.alloc (.cells A 72)).heap.size = wr.heap.size + 1 := by simp
  rw [e] at h
  exact h
theorem box_grown {W Wr w' : World} {b base t size n u : Nat} {v : Value} {xs : List Value} {cs : Array Value} {o : Obj} (hz : Box W b cs u) (ho : Wr.ownsRow base t size v n xs) (hg : (W.alloc o).grownBy w' v.ownBlock) (hb : Wr.heap.size ≤ b) : Box w' b cs u := by
  have h1 := hz.later ((Adds.refl W).alloc o)
  refine h1.same (hg.block b ?_ fun e => ?_)
  · unfold Box at h1
    exact (Array.getElem?_eq_some_iff.1 h1).1
  · obtain ⟨_, cu, z2⟩ := own_block ho e.symm
    have := (Array.getElem?_eq_some_iff.1 z2).1
    omega

theorem Kilns_n (q : Option Addr) (c n : Nat) (l : List Ld) (W : World) (hL : LoadsAt W q l) (hn : n = l.length) (h : n ≤ 256) (hok : ∀ x ∈ l, okB x = true) :
    Calls Try.prog 24 #[.slice q n c] W fun e w' => ∃ r : Int, e = .returned (.tuple #[.int .i64 r, .int .i64 0]) ∧ LeastGot (CanDry l) 0 n r ∧ Adds W w' := by
  subst hn
  have h0 : checkL l = 0 := checkL_zero.2 ⟨h, hok⟩
  refine (Kilns_any q c l W (by unfold maxLen; omega) hL).mono ?_
  rintro e w' ⟨r, rfl, _, h2, h3⟩
  exact ⟨r, by rw [h0], h2 h0, h3⟩
theorem Best_n (q : Option Addr) (c n K : Nat) (l : List Ld) (v : Nat → Int) (W : World) (hL : LoadsAt W q l) (hn : n = l.length) (h : n ≤ 20) (hok : ∀ x ∈ l, okB x = true) (hsh : ∀ x ∈ l, x.2.2.1 = 1) (hK : 1 ≤ K ∧ K ≤ 64) (hv : wOf l = v) :
    Calls Try.prog 30 #[.slice q n c, .int .i64 K] W fun e w' => ∃ (G : Nat → Bool) (c' : Nat) (q' : Option Addr), BestOK l K G ∧ e = .returned (.tuple #[.slice q' (setL G n).length c', .int .i64 (worthL v (setL G n)), .int .i64 0]) ∧ NumsAt w' q' (setL G n).length (fun i => (((setL G n)[i]?.getD 0 : Nat) : Int)) ∧ Adds W w' := by
  subst hn hv
  exact Best_any q c K l W hL h hok (short_any hsh) hK
theorem Early_yes_n (q : Option Addr) (c n K : Nat) (l : List Ld) (W : World) (t : Nat → Nat) (hL : LoadsAt W q l) (hn : n = l.length) (h : n ≤ 256) (hok : ∀ x ∈ l, okB x = true) (hsh : ∀ x ∈ l, x.2.2.1 = 1) (hK : 1 ≤ K ∧ K ≤ 64) (hF : (shOf l K).Full (fun _ => true) t) :
    Calls Try.prog 29 #[.slice q n c, .int .i64 K] W fun e w' => ∃ c' q', e = .returned (.tuple #[.slice q' n c', .int .i64 0]) ∧ NumsAt w' q' n (fun i => (t i : Int)) ∧ Adds W w' := by
  subst hn
  exact Early_yes q c K l W t hL h hok (short_any hsh) hK hF
theorem Early_no_n (q : Option Addr) (c n K : Nat) (l : List Ld) (W : World) (hL : LoadsAt W q l) (hn : n = l.length) (h : n ≤ 256) (hok : ∀ x ∈ l, okB x = true) (hsh : ∀ x ∈ l, x.2.2.1 = 1) (hK : 1 ≤ K ∧ K ≤ 64) (hO : (shOf l K).Over (fun _ => true)) :
    Calls Try.prog 29 #[.slice q n c, .int .i64 K] W fun e w' => e = .returned (.tuple #[nilV, .int .i64 70]) ∧ Adds W w' := by
  subst hn
  exact Early_no q c K l W hL h hok (short_any hsh) hK hO
theorem shL_okB {D : Nat} {l : List Ld} (hok : ∀ x ∈ l, okB x = true) (hD : ∀ (j : Nat) (x : Ld), l[j]? = some x → x.2.1 + (D : Int) ≤ 1000000) : ∀ x ∈ shL D l, okB x = true := fun x hx => by
  obtain ⟨j, hj⟩ := List.getElem?_of_mem hx
  obtain ⟨y, hy, rfl⟩ := shL_some hj
  have h1 := okB_iff.1 (hok y (List.mem_of_getElem? hy))
  have h2 := hD j y hy
  rw [okB_iff]
  unfold lat1
  dsimp only
  omega
theorem shL_short {D : Nat} {l : List Ld} (h : ∀ x ∈ l, x.2.2.1 = 1) : ∀ x ∈ shL D l, x.2.2.1 = 1 := fun x hx => by
  obtain ⟨y, hy, rfl⟩ := shL_mem hx
  exact h y hy
theorem over_shift {l : List Ld} {D K : Nat} {S : Nat → Bool} (hok : ∀ x ∈ l, okB x = true) (hD : D ≤ 1000) (h : (shOf l K).Over S) : (shOf (shL D l) K).Over S := by
  rcases Sh.full_or (shOf (shL D l) K) (shOf_lt (shL_okN hok hD)) S with ⟨t, ht⟩ | ho
  · exact absurd ((fit_shift hok).1 ht.fit) h.none
  · exact ho

set_option maxRecDepth 100000 in
set_option maxHeartbeats 4000000 in
theorem shifts_law (p : Option Addr) (cl : Nat) (l : List Ld) (x y : Int) (w : World) (hL : LoadsAt w p l) (hcl : l.length ≤ cl) (hmx : cl ≤ maxLen) :
    Calls Try.prog 11 #[.slice p l.length cl, .int .i64 x, .int .i64 y] w fun e w' => e = .returned (.bool true) ∧ Adds w w' := by
  have HTM := Lib.hid (tame_due p cl 12 false l w hL (by omega) hcl hmx)
  have HTS := Lib.hid (fun (W : World) (hW : Adds w W) => tame_due p cl 12 true l W (hL.later hW) (by omega) hcl hmx)
  generalize l.length = N at *
  clear hL hcl hmx
  obtain ⟨i0, hi, hi0, hi1, hi2⟩ := info_parts info72
  have HI := Lib.hid hi
  have HI0 := Lib.hid hi0
  have HI1 := Lib.hid hi1
  have HI2 := Lib.hid hi2
  clear hi hi0 hi1 hi2
  go_enter Try.func11, Try.ntmps11
  obtain ⟨hx0, hx1⟩ := wmod x 3 (by omega) (by omega)
  go_upto_region 2 with fail
  obtain ⟨K, hK⟩ : ∃ K : Nat, (K : Int) = 1 + wrap64 ((IntKind.u64.wrap x).tmod 3) := ⟨(1 + wrap64 ((IntKind.u64.wrap x).tmod 3)).toNat, by omega⟩
  simp only [← hK]
  have hKb : 1 ≤ K ∧ K ≤ 64 := by omega
  clear hK hx0 hx1
  obtain ⟨hx0, hx1⟩ := wmod y 500 (by omega) (by omega)
  go_upto_region 3 with fail
  obtain ⟨D, hD⟩ : ∃ D : Nat, (D : Int) = wrap64 ((IntKind.u64.wrap y).tmod 500) := ⟨(wrap64 ((IntKind.u64.wrap y).tmod 500)).toNat, by omega⟩
  simp only [← hD]
  have hDb : D < 500 := by omega
  clear hD hx0 hx1
  go_upto_region 4 with (go_at_call 13; refine HTM.out.mono ?_; rintro e w1 ⟨c0, q0, la, h1, h2, h3, rfl, h4, hb⟩; have HLN0 := Lib.hid h1; have HT0 := Lib.hid h2; have HD0 := Lib.hid h3; have HLA := Lib.hid h4.at; have HB1 := Lib.hid hb; clear h1 h2 h3 h4 hb)
  go_upto_region 5 with (go_at_call 13; refine (HTS.out _ HB1.out).mono ?_; rintro e w2 ⟨c1, q1, lb, h1, h2, h3, rfl, h4, hb⟩; have HLN1 := Lib.hid h1; have HT1 := Lib.hid h2; have HD1 := Lib.hid h3; have HLB := Lib.hid h4.at; have HB2 := Lib.hid hb; clear h1 h2 h3 h4 hb)
  have hln : lb.length = la.length := by rw [HLN0.out, HLN1.out]
  have hlm : la.length ≤ 12 := by rw [HLN0.out]; omega
  have HDUE : Hid (∀ i (x y : Ld), la[i]? = some x → lb[i]? = some y → y.2.1 = x.2.1) := Lib.hid (fun i x y hx hy => by
    obtain ⟨z, a1, a2⟩ := HD0.out i x hx
    obtain ⟨z', b1, b2⟩ := HD1.out i y hy
    rw [a1] at b1
    injection b1 with b1
    subst b1
    rw [a2, b2])
  have HLA2 := Lib.hid (HLA.out.later HB2.out)
  have HA2 := Lib.hid (HB1.out.trans HB2.out)
  obtain ⟨m0, hm0⟩ : ∃ m, m = la.length := ⟨_, rfl⟩
  rw [hln, ← hm0]
  rw [← hm0] at hln hlm
  have HMA := Lib.hid hm0
  have HMB := Lib.hid hln
  clear hm0 hln HLN0 HLN1 HD0 HD1 HTM HTS HLA HB1 HB2
  go_upto_region 7 with fail
  go_loopw [13, 11, 12] (fun v13 v11 v12 wr => ∃ (i : Nat) (pa : Option Addr) (ca : Nat) (pb : Option Addr) (cb : Nat), i ≤ m0 ∧ v13 = .int .i64 i ∧ v11 = .slice pa i ca ∧ v12 = .slice pb i cb ∧ Hid (∀ (j : Nat) (x : Ld), j < i → la[j]? = some x → x.2.1 + (D : Int) ≤ 1000000) ∧ Hid (wr.ownsRow w2.heap.size 72 4 (.slice pa i ca) i ((shL D (la.take i)).flatMap enc4)) ∧ Hid (wr.ownsRow w2.heap.size 72 4 (.slice pb i cb) i ((shL D (lb.take i)).flatMap enc4)) ∧ Hid (∀ r, (Value.slice pb i cb).ownBlock = some r → (Value.slice pa i ca).ownBlock ≠ some r) ∧ Hid (Adds w2 wr)) (fun v13 _ _ _ => m0 - (intOf v13).toNat)
  case atStart => exact ⟨0, none, 0, none, 0, by omega, rfl, rfl, rfl, Lib.hid (fun j x h => by omega), Lib.hid (World.ownsRow_nil _ _ _ _), Lib.hid (World.ownsRow_nil _ _ _ _), Lib.hid (fun r e => by simp [Value.ownBlock] at e), Lib.hid (Adds.refl _)⟩
  case round =>
    obtain ⟨i, pa, ca, pb, cb, hi, rfl, rfl, rfl, HDL, HOA, HOB, HAP, HAD⟩ := hrel
    by_cases him : i < m0
    · have him2 : (i : Int) < (m0 : Int) := by omega
      have hi0 : (0 : Int) ≤ (i : Int) := by omega
      obtain ⟨⟨x0, x1, x2, x3⟩, hx⟩ : ∃ x, la[i]? = some x := ⟨_, List.getElem?_eq_getElem (by have := HMA.out; omega)⟩
      obtain ⟨⟨y0, y1, y2, y3⟩, hy⟩ : ∃ y, lb[i]? = some y := ⟨_, List.getElem?_eq_getElem (by have := HMB.out; omega)⟩
      obtain ⟨g0, off0, rfl, d0, d1, d2, d3⟩ := HLA2.out.later HAD.out i _ hx
      obtain ⟨g1, off1, rfl, e0, e1, e2, e3⟩ := HLB.out.later HAD.out i _ hy
      dsimp only at d0 d1 d2 d3 e0 e1 e2 e3
      have hox := okB_iff.1 (HT0.out _ (List.mem_of_getElem? hx)).1
      have hoy := okB_iff.1 (HT1.out _ (List.mem_of_getElem? hy)).1
      dsimp only at hox hoy
      obtain ⟨ox0, ox1, ox2, ox3, ox4, ox5, ox6⟩ := hox
      obtain ⟨oy0, oy1, oy2, oy3, oy4, oy5, oy6⟩ := hoy
      have HXX := Lib.hid hx
      have HYY := Lib.hid hy
      clear hx hy
      go_upto_region 9 with fail
      have ad0 := fun o => keep_cell ((Adds.refl wr).alloc o) d0
      have aad0 := fun o o2 => keep_cell (((Adds.refl wr).alloc o).alloc o2) d0
      have ad1 := fun o => keep_cell ((Adds.refl wr).alloc o) d1
      have aad1 := fun o o2 => keep_cell (((Adds.refl wr).alloc o).alloc o2) d1
      have ad2 := fun o => keep_cell ((Adds.refl wr).alloc o) d2
      have aad2 := fun o o2 => keep_cell (((Adds.refl wr).alloc o).alloc o2) d2
      have ad3 := fun o => keep_cell ((Adds.refl wr).alloc o) d3
      have aad3 := fun o o2 => keep_cell (((Adds.refl wr).alloc o).alloc o2) d3
      have ae0 := fun o => keep_cell ((Adds.refl wr).alloc o) e0
      have aae0 := fun o o2 => keep_cell (((Adds.refl wr).alloc o).alloc o2) e0
      have ae1 := fun o => keep_cell ((Adds.refl wr).alloc o) e1
      have aae1 := fun o o2 => keep_cell (((Adds.refl wr).alloc o).alloc o2) e1
      have ae2 := fun o => keep_cell ((Adds.refl wr).alloc o) e2
      have aae2 := fun o o2 => keep_cell (((Adds.refl wr).alloc o).alloc o2) e2
      have ae3 := fun o => keep_cell ((Adds.refl wr).alloc o) e3
      have aae3 := fun o o2 => keep_cell (((Adds.refl wr).alloc o).alloc o2) e3
      go_region
      · clear ad0 aad0 d0 ad1 aad1 d1 ad2 aad2 d2 ad3 aad3 d3 ae0 aae0 e0 ae1 aae1 e1 ae2 aae2 e2 ae3 aae3 e3
        go_upto_region 14 with fail
        obtain ⟨W2, hW2⟩ : ∃ W : World, W = ((wr.alloc (Obj.cells #[.int .i64 (x0 + (D : Int)), .int .i64 (x1 + (D : Int)), .int .i64 x2, .int .i64 x3] 72)).alloc (Obj.cells #[.int .i64 (y0 + (D : Int)), .int .i64 (y1 + (D : Int)), .int .i64 y2, .int .i64 y3] 72)).drew := ⟨_, rfl⟩
        have HX : Hid (Box W2 wr.heap.size #[.int .i64 (x0 + (D : Int)), .int .i64 (x1 + (D : Int)), .int .i64 x2, .int .i64 x3] 72) := Lib.hid (by rw [hW2]; exact (Box.new wr #[.int .i64 (x0 + (D : Int)), .int .i64 (x1 + (D : Int)), .int .i64 x2, .int .i64 x3] 72).later (((Adds.refl _).alloc _).drew))
        have HZ : Hid (Box W2 (wr.heap.size + 1) #[.int .i64 (y0 + (D : Int)), .int .i64 (y1 + (D : Int)), .int .i64 y2, .int .i64 y3] 72) := Lib.hid (by rw [hW2]; exact box_two wr #[.int .i64 (x0 + (D : Int)), .int .i64 (x1 + (D : Int)), .int .i64 x2, .int .i64 x3] #[.int .i64 (y0 + (D : Int)), .int .i64 (y1 + (D : Int)), .int .i64 y2, .int .i64 y3])
        have hAd : Adds wr W2 := by rw [hW2]; exact (((Adds.refl wr).alloc _).alloc _).drew
        rw [← hW2]
        clear hW2
        have HAW : Hid (Adds w2 W2) := Lib.hid (HAD.out.trans hAd)
        have HOAW := Lib.hid (own_later HOA.out hAd)
        have HOBW := Lib.hid (own_later HOB.out hAd)
        have hws : w2.heap.size ≤ W2.heap.size := HAW.out.size
        have hwx : wr.heap.size < W2.heap.size := by have h := HX.out; unfold Box at h; exact (Array.getElem?_eq_some_iff.1 h).1
        have hwz : (wr.heap.size + 1) < W2.heap.size := by have h := HZ.out; unfold Box at h; exact (Array.getElem?_eq_some_iff.1 h).1
        clear hAd
        have xx0 := HX.out.cell 0
        have xx1 := HX.out.cell 1
        have xx2 := HX.out.cell 2
        have xx3 := HX.out.cell 3
        simp at xx0 xx1 xx2 xx3
        by_cases hgt : 1000000 < x1 + (D : Int)
        · go_wp2_with (go_at_call 17; refine (awake_any _).mono ?_; rintro e w9 ⟨rfl, hb9⟩)
          go_ret
          exact ⟨rfl, (HA2.out.trans HAW.out).trans hb9⟩
        · go_upto_region 17 with (at_builtin; ((refine wpList_append_lies _ rfl _ _ 22 rfl w2.heap.size 72 i0 (.agg #[.int .i64 0, .int .i64 0, .int .i64 0, .int .i64 0]) 4 32 Try.underlying22 HI.out HI0.out HI1.out HI2.out rfl (by decide) (.slice pa i ca) i _ rfl (HOAW.out.alloc _) ⟨W2.heap.size, 0, none⟩ 1 1 [.int .i64 (x0 + (D : Int)), .int .i64 (x1 + (D : Int)), .int .i64 x2, .int .i64 x3] rfl rfl (World.news_of_block (Box.new W2 _ 72)) (by simp [Value.oneCell']) (by omega) (by unfold maxLen; omega) (by omega) (by simp; omega) (W2.heap.size + 1) (by simp) ?_); intro g6 c6 w6 ho hg hl hs6; have HO6 := Lib.hid ho; have HG6 := Lib.hid hg; have HL6 := Lib.hid hl; clear ho hg hl))
          have HA6 : Hid (Adds w2 w6) := Lib.hid (Below.grown (HAW.out.alloc _) HG6.out (by simp; omega) (fun j hj => (own_block HOAW.out hj).1))
          have HOB6 := Lib.hid (own_beside HOBW.out ((Adds.refl W2).alloc _) HG6.out HAP.out)
          have HAP6 := Lib.hid (apart_grow HOBW.out (Nat.le_succ _) HL6.out HAP.out)
          have HZ6 := Lib.hid (box_grown HZ.out HOA.out HG6.out (by omega))
          clear xx0 xx1 xx2 xx3
          have zz0 := HZ6.out.cell 0
          have zz1 := HZ6.out.cell 1
          have zz2 := HZ6.out.cell 2
          have zz3 := HZ6.out.cell 3
          simp at zz0 zz1 zz2 zz3
          have hw6 : w2.heap.size ≤ w6.heap.size := HA6.out.size
          go_wp2_with (at_builtin; ((refine wpList_append_lies _ rfl _ _ 22 rfl w2.heap.size 72 i0 (.agg #[.int .i64 0, .int .i64 0, .int .i64 0, .int .i64 0]) 4 32 Try.underlying22 HI.out HI0.out HI1.out HI2.out rfl (by decide) (.slice pb i cb) i _ rfl (HOB6.out.alloc _) ⟨w6.heap.size, 0, none⟩ 1 1 [.int .i64 (y0 + (D : Int)), .int .i64 (y1 + (D : Int)), .int .i64 y2, .int .i64 y3] rfl rfl (World.news_of_block (Box.new w6 _ 72)) (by simp [Value.oneCell']) (by omega) (by unfold maxLen; omega) (by omega) (by simp; omega) (w6.heap.size + 1) (by simp) ?_); intro g7 c7 w7 ho hg hl hs7; have HO7 := Lib.hid ho; have HG7 := Lib.hid hg; have HL7 := Lib.hid hl; clear ho hg hl))
          have HA7 : Hid (Adds w2 w7) := Lib.hid (Below.grown (HA6.out.alloc _) HG7.out (by simp; omega) (fun j hj => (own_block HOB6.out hj).1))
          have HOA7 := Lib.hid (own_beside HO6.out ((Adds.refl w6).alloc _) HG7.out (fun r hr e => HAP6.out r e (by simpa [Value.ownBlock] using hr)))
          have HAP7 := Lib.hid (apart_grow HO6.out (Nat.le_succ _) HL7.out (fun r hr e => HAP6.out r e (by simpa [Value.ownBlock] using hr)))
          refine ⟨⟨i + 1, _, _, _, _, by omega, by go_num, rfl, rfl, Lib.hid ?_, Lib.hid ?_, Lib.hid ?_, Lib.hid (fun r hr e => HAP7.out r e (by simpa [Value.ownBlock] using hr)), HA7⟩, by simp [intOf]; omega⟩
          · intro j x hj hx
            by_cases e : j = i
            · subst e
              rw [HXX.out] at hx
              injection hx with hx
              subst hx
              show x1 + (D : Int) ≤ 1000000
              omega
            · exact HDL.out j x (by omega) hx
          · rw [shL_flat HXX.out]; exact HOA7.out
          · rw [shL_flat HYY.out]; exact HO7.out
      · clear ad0 aad0 d0 ad1 aad1 d1 ad2 aad2 d2 ad3 aad3 d3 ae0 aae0 e0 ae1 aae1 e1 ae2 aae2 e2 ae3 aae3 e3
        go_upto_region 14 with fail
        obtain ⟨W2, hW2⟩ : ∃ W : World, W = ((wr.alloc (Obj.cells #[.int .i64 (y0 + (D : Int)), .int .i64 (y1 + (D : Int)), .int .i64 y2, .int .i64 y3] 72)).alloc (Obj.cells #[.int .i64 (x0 + (D : Int)), .int .i64 (x1 + (D : Int)), .int .i64 x2, .int .i64 x3] 72)).drew := ⟨_, rfl⟩
        have HX : Hid (Box W2 (wr.heap.size + 1) #[.int .i64 (x0 + (D : Int)), .int .i64 (x1 + (D : Int)), .int .i64 x2, .int .i64 x3] 72) := Lib.hid (by rw [hW2]; exact box_two wr #[.int .i64 (y0 + (D : Int)), .int .i64 (y1 + (D : Int)), .int .i64 y2, .int .i64 y3] #[.int .i64 (x0 + (D : Int)), .int .i64 (x1 + (D : Int)), .int .i64 x2, .int .i64 x3])
        have HZ : Hid (Box W2 wr.heap.size #[.int .i64 (y0 + (D : Int)), .int .i64 (y1 + (D : Int)), .int .i64 y2, .int .i64 y3] 72) := Lib.hid (by rw [hW2]; exact (Box.new wr #[.int .i64 (y0 + (D : Int)), .int .i64 (y1 + (D : Int)), .int .i64 y2, .int .i64 y3] 72).later (((Adds.refl _).alloc _).drew))
        have hAd : Adds wr W2 := by rw [hW2]; exact (((Adds.refl wr).alloc _).alloc _).drew
        rw [← hW2]
        clear hW2
        have HAW : Hid (Adds w2 W2) := Lib.hid (HAD.out.trans hAd)
        have HOAW := Lib.hid (own_later HOA.out hAd)
        have HOBW := Lib.hid (own_later HOB.out hAd)
        have hws : w2.heap.size ≤ W2.heap.size := HAW.out.size
        have hwx : (wr.heap.size + 1) < W2.heap.size := by have h := HX.out; unfold Box at h; exact (Array.getElem?_eq_some_iff.1 h).1
        have hwz : wr.heap.size < W2.heap.size := by have h := HZ.out; unfold Box at h; exact (Array.getElem?_eq_some_iff.1 h).1
        clear hAd
        have xx0 := HX.out.cell 0
        have xx1 := HX.out.cell 1
        have xx2 := HX.out.cell 2
        have xx3 := HX.out.cell 3
        simp at xx0 xx1 xx2 xx3
        by_cases hgt : 1000000 < x1 + (D : Int)
        · go_wp2_with (go_at_call 17; refine (awake_any _).mono ?_; rintro e w9 ⟨rfl, hb9⟩)
          go_ret
          exact ⟨rfl, (HA2.out.trans HAW.out).trans hb9⟩
        · go_upto_region 17 with (at_builtin; ((refine wpList_append_lies _ rfl _ _ 22 rfl w2.heap.size 72 i0 (.agg #[.int .i64 0, .int .i64 0, .int .i64 0, .int .i64 0]) 4 32 Try.underlying22 HI.out HI0.out HI1.out HI2.out rfl (by decide) (.slice pa i ca) i _ rfl (HOAW.out.alloc _) ⟨W2.heap.size, 0, none⟩ 1 1 [.int .i64 (x0 + (D : Int)), .int .i64 (x1 + (D : Int)), .int .i64 x2, .int .i64 x3] rfl rfl (World.news_of_block (Box.new W2 _ 72)) (by simp [Value.oneCell']) (by omega) (by unfold maxLen; omega) (by omega) (by simp; omega) (W2.heap.size + 1) (by simp) ?_); intro g6 c6 w6 ho hg hl hs6; have HO6 := Lib.hid ho; have HG6 := Lib.hid hg; have HL6 := Lib.hid hl; clear ho hg hl))
          have HA6 : Hid (Adds w2 w6) := Lib.hid (Below.grown (HAW.out.alloc _) HG6.out (by simp; omega) (fun j hj => (own_block HOAW.out hj).1))
          have HOB6 := Lib.hid (own_beside HOBW.out ((Adds.refl W2).alloc _) HG6.out HAP.out)
          have HAP6 := Lib.hid (apart_grow HOBW.out (Nat.le_succ _) HL6.out HAP.out)
          have HZ6 := Lib.hid (box_grown HZ.out HOA.out HG6.out (by omega))
          clear xx0 xx1 xx2 xx3
          have zz0 := HZ6.out.cell 0
          have zz1 := HZ6.out.cell 1
          have zz2 := HZ6.out.cell 2
          have zz3 := HZ6.out.cell 3
          simp at zz0 zz1 zz2 zz3
          have hw6 : w2.heap.size ≤ w6.heap.size := HA6.out.size
          go_wp2_with (at_builtin; ((refine wpList_append_lies _ rfl _ _ 22 rfl w2.heap.size 72 i0 (.agg #[.int .i64 0, .int .i64 0, .int .i64 0, .int .i64 0]) 4 32 Try.underlying22 HI.out HI0.out HI1.out HI2.out rfl (by decide) (.slice pb i cb) i _ rfl (HOB6.out.alloc _) ⟨w6.heap.size, 0, none⟩ 1 1 [.int .i64 (y0 + (D : Int)), .int .i64 (y1 + (D : Int)), .int .i64 y2, .int .i64 y3] rfl rfl (World.news_of_block (Box.new w6 _ 72)) (by simp [Value.oneCell']) (by omega) (by unfold maxLen; omega) (by omega) (by simp; omega) (w6.heap.size + 1) (by simp) ?_); intro g7 c7 w7 ho hg hl hs7; have HO7 := Lib.hid ho; have HG7 := Lib.hid hg; have HL7 := Lib.hid hl; clear ho hg hl))
          have HA7 : Hid (Adds w2 w7) := Lib.hid (Below.grown (HA6.out.alloc _) HG7.out (by simp; omega) (fun j hj => (own_block HOB6.out hj).1))
          have HOA7 := Lib.hid (own_beside HO6.out ((Adds.refl w6).alloc _) HG7.out (fun r hr e => HAP6.out r e (by simpa [Value.ownBlock] using hr)))
          have HAP7 := Lib.hid (apart_grow HO6.out (Nat.le_succ _) HL7.out (fun r hr e => HAP6.out r e (by simpa [Value.ownBlock] using hr)))
          refine ⟨⟨i + 1, _, _, _, _, by omega, by go_num, rfl, rfl, Lib.hid ?_, Lib.hid ?_, Lib.hid ?_, Lib.hid (fun r hr e => HAP7.out r e (by simpa [Value.ownBlock] using hr)), HA7⟩, by simp [intOf]; omega⟩
          · intro j x hj hx
            by_cases e : j = i
            · subst e
              rw [HXX.out] at hx
              injection hx with hx
              subst hx
              show x1 + (D : Int) ≤ 1000000
              omega
            · exact HDL.out j x (by omega) hx
          · rw [shL_flat HXX.out]; exact HOA7.out
          · rw [shL_flat HYY.out]; exact HO7.out
    · have him3 : m0 = i := by omega
      subst him3
      have ea : la.take m0 = la := List.take_of_length_le (by have := HMA.out; omega)
      have eb : lb.take m0 = lb := List.take_of_length_le (by have := HMB.out; omega)
      rw [ea] at HOA
      rw [eb] at HOB
      have hnA : m0 = la.length := HMA.out
      have hnB : m0 = lb.length := HMB.out.symm
      have hokA : ∀ x ∈ la, okB x = true := fun x hx => (HT0.out x hx).1
      have hokB : ∀ x ∈ lb, okB x = true := fun x hx => (HT1.out x hx).1
      have hshB : ∀ x ∈ lb, x.2.2.1 = 1 := fun x hx => (HT1.out x hx).2 rfl
      have hdA : ∀ (j : Nat) (x : Ld), la[j]? = some x → x.2.1 + (D : Int) ≤ 1000000 := fun j x hx => HDL.out j x (by have := (List.getElem?_eq_some_iff.1 hx).1; omega) hx
      have hdB : ∀ (j : Nat) (x : Ld), lb[j]? = some x → x.2.1 + (D : Int) ≤ 1000000 := fun j y hy => by
        have hj := (List.getElem?_eq_some_iff.1 hy).1
        obtain ⟨x, hx⟩ : ∃ x, la[j]? = some x := ⟨_, List.getElem?_eq_getElem (by omega)⟩
        rw [HDUE.out j x y hx hy]
        exact hdA j x hx
      have hokSA := shL_okB hokA hdA
      have hokSB := shL_okB hokB hdB
      have hshSB := shL_short (D := D) hshB
      have hnSA : m0 = (shL D la).length := by rw [shL_len]; exact hnA
      have hnSB : m0 = (shL D lb).length := by rw [shL_len]; exact hnB
      have hSA := own_loads HOA.out hnSA
      have hSB := own_loads HOB.out hnSB
      have hLA := HLA2.out.later HAD.out
      have hLB := HLB.out.later HAD.out
      have HGA := Lib.hid (fun W (hW : Adds wr W) => give_n q0 c0 m0 la W (hLA.later hW) hnA (by omega))
      have HGB := Lib.hid (fun W (hW : Adds wr W) => give_n q1 c1 m0 lb W (hLB.later hW) hnB (by omega))
      have HGSA := Lib.hid (fun W (hW : Adds wr W) => give_n pa ca m0 (shL D la) W (hSA.later hW) hnSA (by omega))
      have HGSB := Lib.hid (fun W (hW : Adds wr W) => give_n pb cb m0 (shL D lb) W (hSB.later hW) hnSB (by omega))
      have HKA := Lib.hid (fun q c W h => Kilns_n q c m0 la W h hnA (by omega) hokA)
      have HKS := Lib.hid (fun q c W h => Kilns_n q c m0 (shL D la) W h hnSA (by omega) hokSA)
      have HEQ : Hid (∀ r s : Int, LeastGot (CanDry la) 0 m0 r → LeastGot (CanDry (shL D la)) 0 m0 s → r = s) := Lib.hid (fun r s h1 h2 => least_same h1 h2 (fun k k0 k1 => (can_shift w hokA (by omega) (by omega) k0 (by omega)).symm) (fun a b a0 ab b1 ha => ha.more w (fun x hx => okB_okN (hokA x hx)) (by omega) a0 ab (by omega)))
      have HBB := Lib.hid (fun q c W h => Best_n q c m0 K lb (wOf lb) W h hnB (by omega) hokB hshB hKb rfl)
      have HBS := Lib.hid (fun q c W h => Best_n q c m0 K (shL D lb) (wOf lb) W h hnSB (by omega) hokSB hshSB hKb (wOf_shift D lb))
      have HUQ : Hid (∀ G H, BestOK lb K G → BestOK (shL D lb) K H → H = G) := Lib.hid (fun G H h1 h2 => h2.unique (best_shift hokB h1))
      have HFO := Lib.hid (Sh.full_or (shOf lb K) (shOf_lt (fun x hx => okB_okN (hokB x hx))) (fun _ => true))
      have HEY := Lib.hid (fun q c W t h ht => Early_yes_n q c m0 K lb W t h hnB (by omega) hokB hshB hKb ht)
      have HES := Lib.hid (fun q c W t h (ht : (shOf lb K).Full (fun _ => true) t) => Early_yes_n q c m0 K (shL D lb) W (fun i => t i + D) h hnSB (by omega) hokSB hshSB hKb (full_shift hokB ht))
      have HNY := Lib.hid (fun q c W h ho => Early_no_n q c m0 K lb W h hnB (by omega) hokB hshB hKb ho)
      have HNS := Lib.hid (fun q c W h (ho : (shOf lb K).Over (fun _ => true)) => Early_no_n q c m0 K (shL D lb) W h hnSB (by omega) hokSB hshSB hKb (over_shift hokB (by omega) ho))
      have HTB : Hid (∀ t, (shOf lb K).Full (fun _ => true) t → ∀ i, i < m0 → t i ≤ 1000000) := Lib.hid (fun t ht i hi => by
        obtain ⟨x, hx⟩ : ∃ x, lb[i]? = some x := ⟨_, List.getElem?_eq_getElem (by omega)⟩
        have h1 := okB_iff.1 (hokB x (List.mem_of_getElem? hx))
        have h2 := ht.tim i (by rw [shOf_n]; omega) rfl
        have h3 := shOf_d (K := K) hx (by omega)
        omega)
      have HA0 := Lib.hid (HA2.out.trans HAD.out)
      generalize wOf lb = vw at *
      clear ea eb hnA hnB hokA hokB hshB hdA hdB hokSA hokSB hshSB hnSA hnSB hSA hSB hLA hLB HOA HOB HAP HDL HT0 HT1 HDUE HMA HMB HLA2 HLB HA2 HAD him
      go_upto_region 19 with (first
        | (go_at_call 16; refine (HGA.out _ (Adds.refl _)).mono ?_; rintro e w3 ⟨c3, q3, rfl, hq3, hb3⟩; have HQ3 := Lib.hid hq3; have HB3 := Lib.hid hb3; clear hq3 hb3)
        | (go_at_call 24; refine (HKA.out _ _ _ HQ3.out).mono ?_; rintro e w4 ⟨r1, rfl, hr1, hb4⟩; have HR1 := Lib.hid hr1; have HB4 := Lib.hid (HB3.out.trans hb4); clear hr1 hb4))
      go_upto_region 20 with (first
        | (go_at_call 16; refine (HGSA.out _ HB4.out).mono ?_; rintro e w5 ⟨c5, q5, rfl, hq5, hb5⟩; have HQ5 := Lib.hid hq5; have HB5 := Lib.hid hb5; clear hq5 hb5)
        | (go_at_call 24; refine (HKS.out _ _ _ HQ5.out).mono ?_; rintro e w6 ⟨r2, rfl, hr2, hb6⟩; have HR2 := Lib.hid hr2; have HB6 := Lib.hid ((HB4.out.trans HB5.out).trans hb6); clear hr2 hb6))
      obtain rfl : r1 = r2 := HEQ.out _ _ HR1.out HR2.out
      clear HEQ HR1 HR2 HKA HKS HGA HGSA HB3 HB4 HB5 HQ3 HQ5
      go_upto_region 21 with (first
        | (go_at_call 16; refine (HGB.out _ HB6.out).mono ?_; rintro e w7 ⟨c7, q7, rfl, hq7, hb7⟩; have HQ7 := Lib.hid hq7; have HB7 := Lib.hid hb7; clear hq7 hb7)
        | (go_at_call 30; refine (HBB.out _ _ _ HQ7.out).mono ?_; rintro e w8 ⟨G, c8, q8, hG, rfl, hn8, hb8⟩; have HG8 := Lib.hid hG; have HN8 := Lib.hid hn8; have HB8 := Lib.hid ((HB6.out.trans HB7.out).trans hb8); clear hG hn8 hb8))
      go_upto_region 22 with (first
        | (go_at_call 16; refine (HGSB.out _ HB8.out).mono ?_; rintro e w9 ⟨c9, q9, rfl, hq9, hb9⟩; have HQ9 := Lib.hid hq9; have HB9 := Lib.hid hb9; clear hq9 hb9)
        | (go_at_call 30; refine (HBS.out _ _ _ HQ9.out).mono ?_; rintro e wa ⟨G2, ca2, qa, hG, rfl, hna, hba⟩; have HGA := Lib.hid hG; have HNA := Lib.hid hna; have HB89 := Lib.hid (HB9.out.trans hba); have HBA := Lib.hid ((HB8.out.trans HB9.out).trans hba); clear hG hna hba))
      have hGG := HUQ.out _ _ HG8.out HGA.out
      subst hGG
      obtain ⟨L, hLL⟩ : ∃ L, L = setL G2 m0 := ⟨_, rfl⟩
      have hlb : L.length ≤ 12 := by rw [hLL]; have := setL_len G2 m0; omega
      rw [← hLL] at HN8 HNA
      obtain ⟨n3, hn3⟩ : ∃ n, n = L.length := ⟨_, rfl⟩
      rw [← hn3] at HN8 HNA hlb
      obtain ⟨s3, hs3⟩ : ∃ y, y = worthL vw L := ⟨_, rfl⟩
      rw [← hLL, ← hn3, ← hs3]
      have HIN := Lib.hid (fun W (hW : Adds wa W) => ints_same q8 qa c8 ca2 n3 _ W ((HN8.out.later HB89.out).later hW) (HNA.out.later hW) (by omega))
      have h01 : (r1 != r1) = false := by simp
      have h02 : (s3 != s3) = false := by simp
      clear hLL hn3 hs3 hlb HG8 HGA HN8 HNA HBB HBS HUQ HQ7 HQ9 HB7 HB9 HB89 HB8
      go_upto_region 24 with (go_at_call 33; refine (HIN.out _ (Adds.refl _)).mono ?_; rintro e wb ⟨rfl, hbb⟩; have HBB := Lib.hid (HBA.out.trans hbb); clear hbb)
      clear h01 h02 HIN HBA
      rcases HFO.out with ⟨t, ht⟩ | ho
      · have HFT := Lib.hid ht
        clear ht
        go_upto_region 25 with (first
          | (go_at_call 16; refine (HGB.out _ HBB.out).mono ?_; rintro e wc ⟨cc, qc, rfl, hqc, hbc⟩; have HQC := Lib.hid hqc; have HBC := Lib.hid hbc; clear hqc hbc)
          | (go_at_call 29; refine (HEY.out _ _ _ t HQC.out HFT.out).mono ?_; rintro e wd ⟨cd, qd, rfl, hqd, hbd⟩; have HQD := Lib.hid hqd; have HBD := Lib.hid ((HBB.out.trans HBC.out).trans hbd); clear hqd hbd))
        go_upto_region 26 with (first
          | (go_at_call 16; refine (HGSB.out _ HBD.out).mono ?_; rintro e we ⟨ce, qe, rfl, hqe, hbe⟩; have HQE := Lib.hid hqe; have HBE := Lib.hid hbe; clear hqe hbe)
          | (go_at_call 29; refine (HES.out _ _ _ t HQE.out HFT.out).mono ?_; rintro e wf ⟨cf, qf, rfl, hqf, hbf⟩; have HQF := Lib.hid hqf; have HQD2 := Lib.hid (HQD.out.later (HBE.out.trans hbf)); have HBF := Lib.hid ((HBD.out.trans HBE.out).trans hbf); clear hqf hbf))
        have h03 : ((m0 : Int) != (m0 : Int)) = false := by simp
        have h04 : (m0 != m0) = false := by simp
        go_upto_region 29 with fail
        go_loopw [30] (fun v30 wr => ∃ k : Nat, k ≤ m0 ∧ v30 = .int .i64 k ∧ Hid (Adds wf wr)) (fun v30 _ => m0 - (intOf v30).toNat)
        case atStart => exact ⟨0, by omega, rfl, Lib.hid (Adds.refl _)⟩
        case round =>
          obtain ⟨k, hk, rfl, HAK⟩ := hrel
          by_cases hkm : k < m0
          · have hkm2 : (k : Int) < (m0 : Int) := by omega
            have hk0 : (0 : Int) ≤ (k : Int) := by omega
            obtain ⟨ga, rfl, ka⟩ := HQD2.out.later HAK.out k hkm
            obtain ⟨gb, rfl, kb⟩ := HQF.out.later HAK.out k hkm
            have htb := HTB.out t HFT.out k hkm
            dsimp only at ka kb
            obtain ⟨z, hz⟩ : ∃ z, z = t k := ⟨_, rfl⟩
            rw [← hz] at ka kb htb
            have hz1 : (z : Int) ≤ 1000000 := by omega
            have hz0 : (0 : Int) ≤ (z : Int) := by omega
            have hsum : ((z + D : Nat) : Int) = (z : Int) + (D : Int) := by omega
            rw [hsum] at kb
            have hw1 : IntKind.i64.wrap ((z : Int) + (D : Int)) = (z : Int) + (D : Int) := IntWalk.i64_in _ (by omega)
            have hne : ((z : Int) + (D : Int) != (z : Int) + (D : Int)) = false := by simp
            clear hz hsum htb h03 h04
            go_upto_region 31 with fail
            go_quiet (fail)
            go_wp2
            exact ⟨⟨k + 1, by omega, by go_num, Lib.hid (HAK.out.drewN _)⟩, by simp [intOf]; omega⟩
          · go_wp2_with (go_at_call 17; refine (awake_any _).mono ?_; rintro e wg ⟨rfl, hbg⟩)
            go_ret
            exact ⟨rfl, (((HA0.out.trans HBF.out).trans HAK.out).trans hbg)⟩
      · have HFT := Lib.hid ho
        clear ho
        go_upto_region 25 with (first
          | (go_at_call 16; refine (HGB.out _ HBB.out).mono ?_; rintro e wc ⟨cc, qc, rfl, hqc, hbc⟩; have HQC := Lib.hid hqc; have HBC := Lib.hid hbc; clear hqc hbc)
          | (go_at_call 29; refine (HNY.out _ _ _ HQC.out HFT.out).mono ?_; rintro e wd ⟨rfl, hbd⟩; have HBD := Lib.hid ((HBB.out.trans HBC.out).trans hbd); clear hbd))
        go_upto_region 26 with (first
          | (go_at_call 16; refine (HGSB.out _ HBD.out).mono ?_; rintro e we ⟨ce, qe, rfl, hqe, hbe⟩; have HQE := Lib.hid hqe; have HBE := Lib.hid hbe; clear hqe hbe)
          | (go_at_call 29; refine (HNS.out _ _ _ HQE.out HFT.out).mono ?_; rintro e wf ⟨rfl, hbf⟩; have HBF := Lib.hid ((HBD.out.trans HBE.out).trans hbf); clear hbf))
        go_upto_region 29 with fail
        go_loopw [30] (fun v30 wr => v30 = .int .i64 0 ∧ Hid (Adds wf wr)) (fun _ _ => 0)
        case atStart => exact ⟨rfl, Lib.hid (Adds.refl _)⟩
        case round =>
          obtain ⟨rfl, HAK⟩ := hrel
          go_wp2_with (go_at_call 17; refine (awake_any _).mono ?_; rintro e wg ⟨rfl, hbg⟩)
          go_ret
          exact ⟨rfl, (((HA0.out.trans HBF.out).trans HAK.out).trans hbg)⟩
end Go.Proofs.Ytkofnhimgegcnaa

namespace Go.Proofs.Ytkofnhimgegcnaa
open Go.ChangeShapes Go.WideShapes Go.ChangeAt Go.RowKit Go.Deep

set_option maxRecDepth 100000 in
theorem shifts_lifted (os : Os) (started : os.Started) (H : Type) (enc : TypeId × Value → H) :
    ReturnsInHanded {} Try.checked os 11 .any (Rows.dryShiftsSpec.pre6 enc Try.prog Try.f11 Rows.dryShiftsRow.domain false) (Rows.dryShiftsSpec.post enc Try.prog Try.f11 false true false false) := by
  refine returnsInHanded_of_change (C := Try.checked) own started (by kernel_rfl) Try.func11
    (ChangeSpec.witness6 (enc := enc) (C := Try.checked) false ⟨#[], #[.slice none 0 0, .int .i64 0, .int .i64 0], []⟩ 11 (by kernel_rfl) (by kernel_rfl) (by kernel_rfl) (by kernel_rfl)) ?_
  intro W base args ds gs before hval0 hW hcnd _
  have hval : ∀ (j : Nat) t v, Try.f11.params[j]? = some t → args[j]? = some v → Value.okWide Try.prog W .any base t v := hval0
  have hW' := hW
  obtain ⟨p, q, hA0, hV, rfl, hfz, hnd⟩ := hW
  have hA : DataW.TrodAll enc Try.prog W 0 (fun _ => true) true Try.f11.params.toList args.toList ds p := hA0
  rw [Try.params11] at hA hval
  obtain ⟨v0, v1, v2, d0, d1, d2, p0, p1, p2, rfl, rfl, rfl, h0, h1, h2⟩ := trodAll_three hA
  obtain ⟨rfl, rfl⟩ := trodVars_none hV
  obtain ⟨a, cap, l, rfl, hcap, hcm, hloads⟩ := open_loads (hval 0 22 v0 rfl rfl) h0
  obtain ⟨x1, rfl⟩ := okWide_int Try.underlying3 (hval 1 3 v1 rfl rfl)
  obtain ⟨x2, rfl⟩ := okWide_int Try.underlying3 (hval 2 3 v2 rfl rfl)
  clear hA0 hval0
  simp only [List.append_nil] at hW'
  refine (shifts_law a cap l x1 x2 W hloads hcap hcm).mono fun e W' ⟨he, hb⟩ => ?_
  subst he
  have hlt : ∀ x ∈ p0 ++ p1 ++ p2, x.block < W.heap.size := fun x hx => hW'.lt x (by simpa using hx)
  exact ⟨_, rfl, post_of_adds (pa := p0 ++ (p1 ++ p2)) (pv := []) hW' (fun _ _ _ => trodAll_mk1 (shut_bool Try.underlying4 _))
    (fun sp hs => trodAll_mk3 (arg_stays (by kernel_rfl) (of_decide_eq_true (by kernel_rfl)) h0 hb (fun x hx => hlt x (List.mem_append_left _ (List.mem_append_left _ hx))) (fun x hx => hs x (List.mem_append_left _ (List.mem_append_left _ hx)))) (arg_stays (by kernel_rfl) (of_decide_eq_true (by kernel_rfl)) h1 hb (fun x hx => hlt x (List.mem_append_left _ (List.mem_append_right _ hx))) (fun x hx => hs x (List.mem_append_left _ (List.mem_append_right _ hx)))) (arg_stays (by kernel_rfl) (of_decide_eq_true (by kernel_rfl)) h2 hb (fun x hx => hlt x (List.mem_append_right _ hx)) (fun x hx => hs x (List.mem_append_right _ hx)))) (fun _ _ => rfl) (by simp)
    hb (ok_one (by kernel_rfl) rfl (okWide_bool_mk Try.underlying4 _))⟩

theorem shifts_holds : Rows.DryShiftsSaid :=
  OpenClaim.holds_of_wide 11 Try.f11 rfl rfl rfl rfl rfl rfl rfl ⟨rfl, rfl, rfl, rfl, rfl⟩ rfl rfl rfl rfl rfl (by kernel_rfl) Try.func11 (by kernel_rfl)
    (of_decide_eq_true (by kernel_rfl)) (by unfold Func.isWrapper; first | (rw [if_pos (by decide +kernel)]; kernel_rfl) | (rw [if_neg (by decide +kernel)]; exact ⟨rfl, rfl⟩))
    (fun os started H enc _ => shifts_lifted os started H enc)

end Go.Proofs.Ytkofnhimgegcnaa
