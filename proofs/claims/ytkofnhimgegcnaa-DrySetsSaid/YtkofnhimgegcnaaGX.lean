/- For every input the law DrySets of package oastlaw07 returns true (the loads of the best set fit, so do any of them; any set of short loads that fits is worth at most as much), and its inputs read afterwards as they did before.
   Conditions: none beyond those of the given statement. -/
import Derived.Test.YtkofnhimgegcnaaFQ
import Derived.Test.YtkofnhimgegcnaaAU
namespace Go.Proofs.Ytkofnhimgegcnaa
open Go Go.RowKit Go.Sort Go.Maps

/-- The loads at some places. -/
def pickL (l : List Ld) (T : List Nat) : List Ld := T.map fun i => l[i]?.getD (0, 0, 0, 0)
theorem pickL_len (l : List Ld) (T : List Nat) : (pickL l T).length = T.length := by simp [pickL]
theorem pickL_get {l : List Ld} {T : List Nat} {k i : Nat} (h : T[k]? = some i) (hi : i < l.length) : (pickL l T)[k]? = l[i]? := by
  unfold pickL
  rw [List.getElem?_map, h, List.getElem?_eq_getElem hi]
  simp [hi]
theorem cnt_places (f : Nat → Bool) (T : List Nat) : ∀ m, m ≤ T.length → cntN m (fun k => (T[k]?.map f).getD false) = (T.take m).countP f
  | 0, _ => by simp [cntN]
  | m + 1, h => by
    obtain ⟨i, hi⟩ : ∃ i, T[m]? = some i := ⟨_, List.getElem?_eq_getElem (by omega)⟩
    obtain ⟨h1, h2⟩ := List.getElem?_eq_some_iff.1 hi
    rw [cntN, cnt_places f T m (by omega), List.take_succ_eq_append_getElem h1, h2, List.countP_append, hi]
    simp [List.countP_cons]
theorem at_places {l : List Ld} {K : Nat} {T : List Nat} (hn : T.Nodup) (hb : ∀ i ∈ T, i < l.length) {t t' : Nat → Nat} (ht : ∀ k i, T[k]? = some i → t' k = t i) (h : Nat) :
    (shOf (pickL l T) K).at (fun _ => true) t' h = (shOf l K).at (fun i => decide (i ∈ T)) t h := by
  have h1 := cnt_list (fun i => t i == h) l.length T hn hb
  have h2 := cnt_places (fun i => t i == h) T T.length (Nat.le_refl _)
  rw [List.take_length, ← h1] at h2
  have e1 : (shOf (pickL l T) K).at (fun _ => true) t' h = cntN T.length (fun k => (T[k]?.map (fun i => t i == h)).getD false) := by
    show cntN (pickL l T).length _ = _
    rw [pickL_len]
    refine cntN_congr fun k hk => ?_
    obtain ⟨i, hi⟩ : ∃ i, T[k]? = some i := ⟨_, List.getElem?_eq_getElem hk⟩
    rw [hi, ht k i hi]
    simp
  rw [e1, h2]
  show _ = cntN l.length _
  exact cntN_congr fun i _ => by simp [Bool.and_comm]
theorem pick_fit {l : List Ld} {K : Nat} {T : List Nat} (hn : T.Nodup) (hb : ∀ i ∈ T, i < l.length) : (shOf (pickL l T) K).Fit (fun _ => true) ↔ (shOf l K).Fit (fun i => decide (i ∈ T)) := by
  have hrd : ∀ k i, T[k]? = some i → (shOf (pickL l T) K).r k = (shOf l K).r i ∧ (shOf (pickL l T) K).d k = (shOf l K).d i := fun k i h => by
    have hi := hb i (List.mem_of_getElem? h)
    have e := pickL_get h hi
    exact ⟨by show ((((pickL l T)[k]?.map (fun x : Ld => x.1)).getD 0).toNat) = (((l[i]?.map (fun x : Ld => x.1)).getD 0).toNat); rw [e], by show ((((pickL l T)[k]?.map (fun x : Ld => x.2.1)).getD 0).toNat) = (((l[i]?.map (fun x : Ld => x.2.1)).getD 0).toNat); rw [e]⟩
  constructor
  · rintro ⟨(t' : Nat → Nat), h1, h2⟩
    have hex : ∀ i : Nat, ∃ h : Nat, ∀ k : Nat, T[k]? = some i → t' k = h := fun i => by
      by_cases c : ∃ k : Nat, T[k]? = some i
      · obtain ⟨k, hk⟩ := c
        refine ⟨t' k, fun k' hk' => ?_⟩
        obtain ⟨a1, a2⟩ := List.getElem?_eq_some_iff.1 hk
        obtain ⟨b1, b2⟩ := List.getElem?_eq_some_iff.1 hk'
        have : k = k' := (List.getElem_inj hn).1 (a2.trans b2.symm)
        rw [this]
      · exact ⟨0, fun k hk => absurd ⟨k, hk⟩ c⟩
    obtain ⟨t, ht⟩ := Classical.axiomOfChoice hex
    refine ⟨t, fun i hi hS => ?_, fun h => ?_⟩
    · obtain ⟨k, hk⟩ := List.getElem?_of_mem (of_decide_eq_true hS)
      have := h1 k (by rw [shOf_n, pickL_len]; exact (List.getElem?_eq_some_iff.1 hk).1) rfl
      rw [(hrd k i hk).1, (hrd k i hk).2, ht i k hk] at this
      exact this
    · rw [← at_places hn hb (t' := t') (fun k i hk => ht i k hk) h]
      exact h2 h
  · rintro ⟨t, h1, h2⟩
    refine ⟨fun k => t (T[k]?.getD 0), fun k hk _ => ?_, fun h => ?_⟩
    · rw [shOf_n, pickL_len] at hk
      obtain ⟨i, hi⟩ : ∃ i, T[k]? = some i := ⟨_, List.getElem?_eq_getElem hk⟩
      have := h1 i (by rw [shOf_n]; exact hb i (List.mem_of_getElem? hi)) (decide_eq_true (List.mem_of_getElem? hi))
      rw [(hrd k i hi).1, (hrd k i hi).2]
      show _ ≤ t (T[k]?.getD 0) ∧ t (T[k]?.getD 0) < _
      rw [hi]
      exact this
    · rw [at_places hn hb (t := t) (fun k i hk => by rw [hk]; rfl) h]
      exact h2 h
/-- Some of the loads can be dried just if the set of their places fits. -/
theorem pick_dry (w : World) {l : List Ld} {K : Nat} {T : List Nat} (hok : ∀ x ∈ l, okB x = true) (hsh : ∀ x ∈ l, x.2.2.1 = 1) (hn : T.Nodup) (hb : ∀ i ∈ T, i < l.length) (hl : l.length ≤ 256) (hK : K ≤ 256) : CanDry (pickL l T) K ↔ (shOf l K).Fit (fun i => decide (i ∈ T)) := by
  have hmem : ∀ x ∈ pickL l T, x ∈ l := fun x hx => by
    obtain ⟨k, hk⟩ := List.getElem?_of_mem hx
    have hkl := (List.getElem?_eq_some_iff.1 hk).1
    rw [pickL_len] at hkl
    obtain ⟨i, hi⟩ : ∃ i, T[k]? = some i := ⟨_, List.getElem?_eq_getElem hkl⟩
    rw [pickL_get hi (hb i (List.mem_of_getElem? hi))] at hk
    exact List.mem_of_getElem? hk
  have hle : (pickL l T).length ≤ 256 := by
    rw [pickL_len]
    have h1 := cnt_list (fun _ => true) l.length T hn hb
    have h2 := cntN_bd (fun i => true && decide (i ∈ T)) l.length
    rw [List.countP_true] at h1
    omega
  rw [dry_fit w (fun x hx => okB_okN (hok x (hmem x hx))) (fun x hx => hsh x (hmem x hx)) hle hK]
  exact pick_fit hn hb
end Go.Proofs.Ytkofnhimgegcnaa

namespace Go.Proofs.Ytkofnhimgegcnaa
open Go Go.RowKit Go.Sort Go.Maps

/-- A list of numbers that the law is given. -/
def ArgI (w : World) (p : Option Addr) (La : List Int) : Prop := ∀ j x, La[j]? = some x → ∃ g off, p = some ⟨g, off, none⟩ ∧ w.cell? ⟨g, off + j, none⟩ = some (.int .i64 x)
theorem ArgI.later {w w' : World} {p : Option Addr} {La : List Int} (h : ArgI w p La) (ha : Adds w w') : ArgI w' p La := fun j x hj => by
  obtain ⟨g, off, e, c⟩ := h j x hj
  exact ⟨g, off, e, keep_cell ha c⟩
theorem own_beside {w Wa w' : World} {base t size n : Nat} {v : Value} {xs : List Value} {row : Option Nat} (h : w.ownsRow base t size v n xs) (ha : Adds w Wa) (hg : Wa.grownBy w' row) (hne : ∀ r, v.ownBlock = some r → row ≠ some r) : w'.ownsRow base t size v n xs :=
  own_same h fun r hr => by
    obtain ⟨_, cu, z2⟩ := own_block h hr
    have hlt := (Array.getElem?_eq_some_iff.1 z2).1
    exact (hg.block r (Nat.lt_of_lt_of_le hlt ha.size) (fun e => hne r hr e.symm)).trans (ha.block r hlt)

theorem apart_grow {w : World} {base t size n g H : Nat} {v v2 : Value} {xs : List Value} (ho : w.ownsRow base t size v2 n xs) (hH : w.heap.size ≤ H) (hl : v.ownBlock = some g ∨ g = H) (hne : ∀ r, v2.ownBlock = some r → v.ownBlock ≠ some r) : ∀ r, v2.ownBlock = some r → some g ≠ some r := fun r hr => by
  obtain ⟨_, cu, z2⟩ := own_block ho hr
  have hlt := (Array.getElem?_eq_some_iff.1 z2).1
  rcases hl with e | e
  · rw [← e]; exact hne r hr
  · intro h; injection h with h; omega
theorem own_loads {w : World} {base n c : Nat} {p : Option Addr} {l : List Ld} (h : w.ownsRow base 72 4 (.slice p n c) n (l.flatMap enc4)) (hn : n = l.length) : LoadsAt w p l := by
  subst hn
  exact Loads.at (show Loads w 72 base (.slice p l.length c) l from h)
theorem give_n (q : Option Addr) (c n : Nat) (l : List Ld) (W : World) (hL : LoadsAt W q l) (hn : n = l.length) (h : n ≤ 1000) : Calls Try.prog 16 #[.slice q n c] W fun e w' => ∃ c' q', e = .returned (.slice q' n c') ∧ LoadsAt w' q' l ∧ Adds W w' := by
  subst hn
  exact give_at q c l W hL h
theorem Fits_n (q : Option Addr) (c n K : Nat) (l : List Ld) (W : World) (hL : LoadsAt W q l) (hn : n = l.length) (h : n ≤ 256) (hok : ∀ x ∈ l, okB x = true) (hK : 1 ≤ K ∧ K ≤ 64) (b : Bool) (hb : b = true ↔ CanDry l K) :
    Calls Try.prog 15 #[.slice q n c, .int .i64 K] W fun e w' => e = .returned (.tuple #[.bool b, .int .i64 0]) ∧ Adds W w' := by
  subst hn
  exact Fits_at q c K l W hL h hok hK b hb
theorem worthL_take {v : Nat → Int} {L : List Nat} {i y : Nat} (h : L[i]? = some y) : worthL v (L.take (i + 1)) = worthL v (L.take i) + v y := by
  obtain ⟨h1, h2⟩ := List.getElem?_eq_some_iff.1 h
  rw [List.take_succ_eq_append_getElem h1, h2, worthL_snoc]
theorem pickL_snoc (l : List Ld) (T : List Nat) (y : Nat) : pickL l (T ++ [y]) = pickL l T ++ [l[y]?.getD (0, 0, 0, 0)] := by simp [pickL]
theorem pick_flat {l : List Ld} {y : Nat} {x : Ld} (T : List Nat) (hx : l[y]? = some x) : (pickL l (T ++ [y])).flatMap enc4 = (pickL l T).flatMap enc4 ++ enc4 x := by
  rw [pickL_snoc, hx]
  simp
theorem take_snoc2 {L : List Nat} {i y : Nat} (h : L[i]? = some y) : L.take (i + 1) = L.take i ++ [y] := by
  obtain ⟨h1, h2⟩ := List.getElem?_eq_some_iff.1 h
  rw [List.take_succ_eq_append_getElem h1, h2]
theorem range_filter {m : Nat} {Q : List Nat} (h : Q.Sublist (List.range m)) : setL (fun i => decide (i ∈ Q)) m = Q := by
  have h1 : Q.Pairwise (· < ·) := List.Pairwise.sublist h List.pairwise_lt_range
  have h2 := setL_sorted (fun i => decide (i ∈ Q)) m
  refine List.Perm.eq_of_pairwise (le := fun a b => a < b) (fun a b _ _ h1 h2 => by omega) h2 h1 ?_
  refine (List.perm_ext_iff_of_nodup (h2.imp (fun h => Nat.ne_of_lt h)) (h1.imp (fun h => Nat.ne_of_lt h))).2 fun a => ?_
  unfold setL
  rw [List.mem_filter]
  constructor
  · exact fun h => of_decide_eq_true h.2
  · exact fun hq => ⟨h.subset hq, decide_eq_true hq⟩

set_option maxRecDepth 100000 in
set_option maxHeartbeats 4000000 in
theorem sets_law (p : Option Addr) (cl : Nat) (l : List Ld) (x : Int) (p2 : Option Addr) (c2 : Nat) (La : List Int) (w : World) (hL : LoadsAt w p l) (hcl : l.length ≤ cl) (hmx : cl ≤ maxLen) (hLa : ArgI w p2 La) (hc2 : La.length ≤ c2) (hcm : c2 ≤ maxLen) :
    Calls Try.prog 9 #[.slice p l.length cl, .int .i64 x, .slice p2 La.length c2] w fun e w' => e = .returned (.bool true) ∧ Adds w w' := by
  have HTM := Lib.hid (tame_short p cl 15 l w hL (by omega) hcl hmx)
  have HLA := Lib.hid (fun (W : World) (hW : Adds w W) => hLa.later hW)
  have hm : La.length ≤ maxLen := by omega
  generalize l.length = N at *
  obtain ⟨ml, hml⟩ : ∃ m, m = La.length := ⟨_, rfl⟩
  rw [← hml] at hm ⊢
  have HML := Lib.hid hml
  clear hL hcl hmx hLa hc2 hcm hml
  obtain ⟨i0, hi, hi0, hi1, hi2⟩ := info_parts info72
  have HI := Lib.hid hi
  have HI0 := Lib.hid hi0
  have HI1 := Lib.hid hi1
  have HI2 := Lib.hid hi2
  clear hi hi0 hi1 hi2
  go_enter Try.func9, Try.ntmps9
  obtain ⟨hx0, hx1⟩ := wmod x 3 (by omega) (by omega)
  go_upto_region 2 with fail
  obtain ⟨K, hK⟩ : ∃ K : Nat, (K : Int) = 1 + wrap64 ((IntKind.u64.wrap x).tmod 3) := ⟨(1 + wrap64 ((IntKind.u64.wrap x).tmod 3)).toNat, by omega⟩
  simp only [← hK]
  have hKb : 1 ≤ K ∧ K ≤ 3 := by omega
  clear hK hx0 hx1
  go_upto_region 3 with (go_at_call 13; refine HTM.out.mono ?_; rintro e w1 ⟨c0, q0, l0, rfl, h1, h2, h3, h4, hb1⟩; have HL0 := Lib.hid h1; have HOK0 := Lib.hid h3; have HSH0 := Lib.hid h4; have HB1 := Lib.hid hb1; clear h1 h3 h4 hb1)
  have HG0 := Lib.hid (fun (W : World) (hW : Adds w1 W) => give_at q0 c0 l0 W (HL0.out.later hW) (by omega))
  have HBE := Lib.hid (fun (q2 : Option Addr) (c2 : Nat) (W : World) (hW : LoadsAt W q2 l0) => Best_any q2 c2 K l0 W hW (by omega) HOK0.out (short_any HSH0.out) (by omega))
  have HMO := Lib.hid (fun (G B : Nat → Bool) (h : BestOK l0 K G) (hB : (shOf l0 K).Fit B) => h.most HOK0.out hB)
  have HPD := Lib.hid (fun (T : List Nat) (hn : T.Nodup) (hb : ∀ i ∈ T, i < l0.length) => pick_dry w HOK0.out HSH0.out hn hb (by omega) (show K ≤ 256 by omega))
  have HWB := Lib.hid (worth_at HOK0.out)
  obtain ⟨m0, hm0⟩ : ∃ m, m = l0.length := ⟨_, rfl⟩
  have HM0 := Lib.hid hm0
  rw [← hm0] at h2 HG0 HBE HMO HPD ⊢
  clear hm0 HTM
  go_upto_region 4 with (first
    | (go_at_call 16; refine (HG0.out _ (Adds.refl _)).mono ?_; rintro e w2 ⟨c2, q2, rfl, hq2, hb2⟩; have HQ2 := Lib.hid hq2; have HB2 := Lib.hid hb2; clear hq2 hb2)
    | (go_at_call 30; refine (HBE.out _ _ _ HQ2.out).mono ?_; rintro e w3 ⟨G, c3, q3, hG, rfl, hn3, hb3⟩; have HGG := Lib.hid hG; have HN3 := Lib.hid hn3; have HB3 := Lib.hid hb3; clear hG hn3 hb3))
  have HA3 := Lib.hid ((HB1.out.trans HB2.out).trans HB3.out)
  obtain ⟨L, hLL⟩ : ∃ L, L = setL G m0 := ⟨_, rfl⟩
  rw [← hLL] at HN3
  obtain ⟨n3, hn3⟩ : ∃ n, n = L.length := ⟨_, rfl⟩
  obtain ⟨s3, hs3⟩ : ∃ y, y = worthL (wOf l0) L := ⟨_, rfl⟩
  rw [← hLL, ← hn3, ← hs3]
  rw [← hn3] at HN3
  have hsrt : L.Pairwise (· < ·) := by rw [hLL]; exact setL_sorted G m0
  have hinn : ∀ y ∈ L, y < m0 := by rw [hLL]; intro y hy; exact List.mem_range.1 (List.mem_filter.1 hy).1
  have hn15 : n3 ≤ 15 := by rw [hn3, hLL]; have := setL_len G m0; omega
  have HSRT := Lib.hid hsrt
  have HINN := Lib.hid hinn
  have HLL := Lib.hid hLL
  have HN3L := Lib.hid hn3
  have HS3 := Lib.hid hs3
  have HL3 := Lib.hid (fun (W : World) (hW : Adds w3 W) => HL0.out.later ((HB2.out.trans HB3.out).trans hW))
  clear hsrt hinn hLL hn3 hs3 HB1 HB2 HB3 HQ2 HBE HL0
  go_upto_region 9 with fail
  go_loopw [16, 12, 13, 15] (fun v16 v12 v13 v15 wr => ∃ (i : Nat) (pb : Option Addr) (cb : Nat) (P : List Nat) (np : Nat) (pp : Option Addr) (cp : Nat) (sm : Int), i ≤ n3 ∧ v16 = .int .i64 i ∧ v12 = .slice pb i cb ∧ v13 = .slice pp np cp ∧ v15 = .int .i64 sm ∧ Hid (np = P.length) ∧ np ≤ i ∧ 0 ≤ sm ∧ sm ≤ 1000000 * (i : Int) ∧ Hid (sm = worthL (wOf l0) (L.take i)) ∧ Hid (P.Sublist (L.take i)) ∧ Hid (wr.ownsRow w3.heap.size 72 4 (.slice pb i cb) i ((pickL l0 (L.take i)).flatMap enc4)) ∧ Hid (wr.ownsRow w3.heap.size 72 4 (.slice pp np cp) np ((pickL l0 P).flatMap enc4)) ∧ Hid (∀ r, (Value.slice pp np cp).ownBlock = some r → (Value.slice pb i cb).ownBlock ≠ some r) ∧ Hid (Adds w3 wr)) (fun v16 _ _ _ _ => n3 - (intOf v16).toNat)
  case atStart => exact ⟨0, none, 0, [], 0, none, 0, 0, by omega, rfl, rfl, rfl, rfl, Lib.hid rfl, by omega, by omega, by omega, Lib.hid (by simp [worthL]), Lib.hid (List.nil_sublist _), Lib.hid (World.ownsRow_nil _ _ _ _), Lib.hid (World.ownsRow_nil _ _ _ _), Lib.hid (fun r e => by simp [Value.ownBlock] at e), Lib.hid (Adds.refl _)⟩
  case round => as_aux_lemma =>
    obtain ⟨i, pb, cb, P, np, pp, cp, sm, hi, rfl, rfl, rfl, rfl, HNP, hnp, hs0, hs1, HSM, HSUB, HOB, HOP, HAP, HAD⟩ := hrel
    by_cases hin : i < n3
    · have hin2 : (i : Int) < (n3 : Int) := by omega
      have hi0 : (0 : Int) ≤ (i : Int) := by omega
      obtain ⟨y, hy⟩ : ∃ y, L[i]? = some y := ⟨_, List.getElem?_eq_getElem (by have := HN3L.out; omega)⟩
      have hym := HINN.out y (List.mem_of_getElem? hy)
      obtain ⟨g3, rfl, ky3⟩ := HN3.out i hin
      dsimp only at ky3
      rw [hy, Option.getD_some] at ky3
      have ky := keep_cell HAD.out ky3
      have KY3 := Lib.hid ky3
      obtain ⟨⟨x0, x1, x2, x3⟩, hx⟩ : ∃ x, l0[y]? = some x := ⟨_, List.getElem?_eq_getElem (by have := HM0.out; omega)⟩
      obtain ⟨g, off, rfl, b0, b1, b2, b3⟩ := HL3.out w3 (Adds.refl _) y _ hx
      dsimp only at b0 b1 b2 b3
      have D0 := Lib.hid b0
      have D1 := Lib.hid b1
      have D2 := Lib.hid b2
      have D3 := Lib.hid b3
      clear b0 b1 b2 b3 ky3
      have hvx := HWB.out y
      rw [wOf_get hx] at hvx
      dsimp only at hvx
      have hy0 : (y : Int) < (m0 : Int) := by omega
      have hyz : (0 : Int) ≤ (y : Int) := by omega
      have hyq : decide ((m0 : Int) ≤ (y : Int)) = false := decide_eq_false (by omega)
      have hyq2 : decide (m0 ≤ y) = false := decide_eq_false (by omega)
      have hyn : decide ((y : Int) < 0) = false := decide_eq_false (by omega)
      have HYY := Lib.hid hy
      have HXX := Lib.hid hx
      have hprev : 0 < i → ∃ z : Nat, z < y ∧ wr.cell? ⟨g3, i - 1, none⟩ = some (.int .i64 (z : Int)) := fun h0 => by
        obtain ⟨z, hz⟩ : ∃ z, L[i - 1]? = some z := ⟨_, List.getElem?_eq_getElem (by have := HN3L.out; omega)⟩
        obtain ⟨a1, a2⟩ := List.getElem?_eq_some_iff.1 hz
        obtain ⟨b1, b2⟩ := List.getElem?_eq_some_iff.1 HYY.out
        have := List.pairwise_iff_getElem.1 HSRT.out (i - 1) i a1 b1 (by omega)
        rw [a2, b2] at this
        obtain ⟨g4, e4, kz⟩ := HN3.out.later HAD.out (i - 1) (by omega)
        simp only [Option.some.injEq, Addr.mk.injEq, and_true] at e4
        subst e4
        dsimp only at kz
        rw [hz, Option.getD_some] at kz
        exact ⟨z, this, kz⟩
      have hgoal : ∀ (u : Nat) (W : World), True := fun _ _ => trivial
      clear hy hx hgoal
      obtain ⟨Wd0, hWd0⟩ : ∃ W : World, W = wr := ⟨_, rfl⟩
      have hcases : (decide ((0 : Int) < (i : Int)) = false ∧ decide (0 < i) = false) ∨ ((decide ((0 : Int) < (i : Int)) = true ∧ decide (0 < i) = true) ∧ ∃ pz z : Nat, decide ((y : Int) ≤ (z : Int)) = false ∧ decide (y ≤ z) = false ∧ (i : Int) - 1 = (pz : Int) ∧ (pz : Int) < (n3 : Int) ∧ wr.cell? ⟨g3, pz, none⟩ = some (.int .i64 (z : Int))) := by
        by_cases hi1 : 0 < i
        · obtain ⟨z, hzy, kz⟩ := hprev hi1
          exact .inr ⟨⟨decide_eq_true (by omega), decide_eq_true hi1⟩, i - 1, z, decide_eq_false (by omega), decide_eq_false (by omega), by omega, by omega, kz⟩
        · exact .inl ⟨decide_eq_false (by omega), decide_eq_false (by omega)⟩
      clear hWd0 hprev
      clear Wd0
      rcases hcases with ⟨hiq, hiq2⟩ | ⟨⟨hiq, hiq2⟩, pz, z, hzq, hzq2, hpi, hpn, kz⟩
      all_goals
        go_upto_region 11 with fail
        go_quiet (fail)
        obtain ⟨Wd, hWd⟩ : ∃ V, V = wr.drewN nq := ⟨_, rfl⟩
        rw [← hWd]
        have hAd : Adds wr Wd := by rw [hWd]; exact (Adds.refl _).drewN _
        have HAW := Lib.hid (HAD.out.trans hAd)
        have HOBW := Lib.hid (own_later HOB.out hAd)
        have HOPW := Lib.hid (own_later HOP.out hAd)
        have hws : w3.heap.size ≤ Wd.heap.size := HAW.out.size
        have hKY := KY3.out
        have ky2 := keep_cell HAW.out hKY
        have e0 := keep_cell HAW.out D0.out
        have e1 := keep_cell HAW.out D1.out
        have e2 := keep_cell HAW.out D2.out
        have e3 := keep_cell HAW.out D3.out
        clear hKY hWd hAd ky
        try clear kz hzq hzq2 hpi hpn
        go_upto_region 14 with (at_builtin; ((refine wpList_append_lies _ rfl _ _ 22 rfl w3.heap.size 72 i0 (.agg #[.int .i64 0, .int .i64 0, .int .i64 0, .int .i64 0]) 4 32 Try.underlying22 HI.out HI0.out HI1.out HI2.out rfl (by decide) (.slice pb i cb) i _ rfl (HOBW.out.alloc _) ⟨Wd.heap.size, 0, none⟩ 1 1 [.int .i64 x0, .int .i64 x1, .int .i64 x2, .int .i64 x3] rfl rfl (World.news_of_block (Box.new Wd _ 72)) (by simp [Value.oneCell']) (by omega) (by unfold maxLen; omega) (by omega) (by simp; omega) (Wd.heap.size + 1) (by simp) ?_); intro g6 c6 w6 ho hg hl hs6; have HO6 := Lib.hid ho; have HG6 := Lib.hid hg; have HL6 := Lib.hid hl; clear ho hg hl))
        have HA6 : Hid (Adds w3 w6) := Lib.hid (Below.grown (HAW.out.alloc _) HG6.out (by simp; omega) (fun j hj => (own_block HOBW.out hj).1))
        have HOP6 := Lib.hid (own_beside HOPW.out ((Adds.refl Wd).alloc _) HG6.out HAP.out)
        have HAP6 := Lib.hid (apart_grow HOPW.out (Nat.le_succ _) HL6.out HAP.out)
        clear ky2 e0 e1 e2 e3
        have ky2 := keep_cell HA6.out KY3.out
        have e0 := keep_cell HA6.out D0.out
        have e1 := keep_cell HA6.out D1.out
        have e2 := keep_cell HA6.out D2.out
        have e3 := keep_cell HA6.out D3.out
        have hw6 : w3.heap.size ≤ w6.heap.size := HA6.out.size
        go_upto_region 15 with fail
        have HNEW : Hid ((pickL l0 (L.take (i + 1))).flatMap enc4 = (pickL l0 (L.take i)).flatMap enc4 ++ [.int .i64 x0, .int .i64 x1, .int .i64 x2, .int .i64 x3]) := Lib.hid (by rw [take_snoc2 HYY.out, pick_flat _ HXX.out]; rfl)
        have HWN : Hid (sm + x3 = worthL (wOf l0) (L.take (i + 1))) := Lib.hid (by rw [worthL_take HYY.out, ← HSM.out, wOf_get HXX.out])
        have HOB6 : Hid (w6.ownsRow w3.heap.size 72 4 (.slice (some ⟨g6, 0, none⟩) (i + 1) c6) (i + 1) ((pickL l0 (L.take (i + 1))).flatMap enc4)) := Lib.hid (by rw [HNEW.out]; exact HO6.out)
        have HSUB1 : Hid (P.Sublist (L.take (i + 1))) := Lib.hid (by rw [take_snoc2 HYY.out]; exact HSUB.out.trans (List.sublist_append_left _ _))
        by_cases him : i < ml
        · have hil : decide (i < ml) = true := decide_eq_true him
          have hil2 : decide ((i : Int) < (ml : Int)) = true := decide_eq_true (by omega)
          have hil3 : (i : Int) < (ml : Int) := by omega
          obtain ⟨u, hu⟩ : ∃ u, La[i]? = some u := ⟨_, List.getElem?_eq_getElem (by have := HML.out; omega)⟩
          obtain ⟨g2, off2, rfl, ku⟩ := HLA.out w6 (HA3.out.trans HA6.out) i u hu
          clear hu
          obtain ⟨par, hpar⟩ : ∃ b, (u.tmod 2 != 0) = b := ⟨_, rfl⟩
          cases par
          · go_wp2
            refine ⟨⟨i + 1, _, _, P, np, pp, cp, sm + x3, by omega, by go_num, rfl, rfl, rfl, HNP, by omega, by omega, by omega, HWN, HSUB1, HOB6, HOP6, Lib.hid (fun r hr e => HAP6.out r hr (by simpa [Value.ownBlock] using e)), HA6⟩, by simp [intOf]; omega⟩
          · go_wp2_with (at_builtin; ((refine wpList_append_lies _ rfl _ _ 22 rfl w3.heap.size 72 i0 (.agg #[.int .i64 0, .int .i64 0, .int .i64 0, .int .i64 0]) 4 32 Try.underlying22 HI.out HI0.out HI1.out HI2.out rfl (by decide) (.slice pp np cp) np _ rfl (HOP6.out.alloc _) ⟨w6.heap.size, 0, none⟩ 1 1 [.int .i64 x0, .int .i64 x1, .int .i64 x2, .int .i64 x3] rfl rfl (World.news_of_block (Box.new w6 _ 72)) (by simp [Value.oneCell']) (by omega) (by unfold maxLen; omega) (by omega) (by simp; omega) (w6.heap.size + 1) (by simp) ?_); intro g7 c7 w7 ho hg hl hs7; have HO7 := Lib.hid ho; have HG7 := Lib.hid hg; have HL7 := Lib.hid hl; clear ho hg hl))
            have HA7 : Hid (Adds w3 w7) := Lib.hid (Below.grown (HA6.out.alloc _) HG7.out (by simp; omega) (fun j hj => (own_block HOP6.out hj).1))
            have HOB7 := Lib.hid (own_beside HOB6.out ((Adds.refl w6).alloc _) HG7.out (fun r hr e => HAP6.out r e (by simpa [Value.ownBlock] using hr)))
            have HAP7 := Lib.hid (apart_grow HOB6.out (Nat.le_succ _) HL7.out (fun r hr e => HAP6.out r e (by simpa [Value.ownBlock] using hr)))
            refine ⟨⟨i + 1, _, _, P ++ [y], np + 1, _, _, sm + x3, by omega, by go_num, rfl, rfl, rfl, Lib.hid (by rw [List.length_append, HNP.out]; rfl), by omega, by omega, by omega, HWN, Lib.hid (by rw [take_snoc2 HYY.out]; exact HSUB.out.append (List.Sublist.refl _)), HOB7, Lib.hid (by rw [pick_flat _ HXX.out]; exact HO7.out), Lib.hid (fun r hr e => HAP7.out r e (by simpa [Value.ownBlock] using hr)), HA7⟩, by simp [intOf]; omega⟩
        · have hil : decide (i < ml) = false := decide_eq_false him
          have hil2 : decide ((i : Int) < (ml : Int)) = false := decide_eq_false (by omega)
          go_wp2
          refine ⟨⟨i + 1, _, _, P, np, pp, cp, sm + x3, by omega, by go_num, rfl, rfl, rfl, HNP, by omega, by omega, by omega, HWN, HSUB1, HOB6, HOP6, Lib.hid (fun r hr e => HAP6.out r hr (by simpa [Value.ownBlock] using e)), HA6⟩, by simp [intOf]; omega⟩
    · have hin3 : n3 = i := by omega
      subst hin3
      have e1 : L.take n3 = L := List.take_of_length_le (by have := HN3L.out; omega)
      rw [e1] at HOB HSM HSUB
      have hss : sm = s3 := HSM.out.trans HS3.out.symm
      subst hss
      clear e1 hin
      obtain ⟨wo, rfl⟩ : ∃ wo : World, wo = wr := ⟨_, rfl⟩
      go_upto_region 19 with fail
      go_loopw [18, 14, 17] (fun v18 v14 v17 wr => ∃ (j : Nat) (Q : List Nat) (nq : Nat) (pq : Option Addr) (cq : Nat) (s2 : Int), j ≤ m0 ∧ v18 = .int .i64 j ∧ v14 = .slice pq nq cq ∧ v17 = .int .i64 s2 ∧ Hid (nq = Q.length) ∧ nq ≤ j ∧ 0 ≤ s2 ∧ s2 ≤ 1000000 * (j : Int) ∧ Hid (s2 = worthL (wOf l0) Q) ∧ Hid (Q.Sublist (List.range j)) ∧ Hid (wr.ownsRow wo.heap.size 72 4 (.slice pq nq cq) nq ((pickL l0 Q).flatMap enc4)) ∧ Hid (Adds wo wr)) (fun v18 _ _ _ => m0 - (intOf v18).toNat)
      case atStart => exact ⟨0, [], 0, none, 0, 0, by omega, rfl, rfl, rfl, Lib.hid rfl, by omega, by omega, by omega, Lib.hid (by simp [worthL]), Lib.hid (List.nil_sublist _), Lib.hid (World.ownsRow_nil _ _ _ _), Lib.hid (Adds.refl _)⟩
      case round =>
        obtain ⟨j, Q, nq, pq, cq, s2, hj, rfl, rfl, rfl, HNQ, hnq, hq0, hq1, HS2, HQS, HOQ, HA2⟩ := hrel
        by_cases hjm : j < m0
        · have hjm2 : (j : Int) < (m0 : Int) := by omega
          have hj0 : (0 : Int) ≤ (j : Int) := by omega
          obtain ⟨⟨x0, x1, x2, x3⟩, hx⟩ : ∃ x, l0[j]? = some x := ⟨_, List.getElem?_eq_getElem (by have := HM0.out; omega)⟩
          obtain ⟨g, off, rfl, b0, b1, b2, b3⟩ := HL3.out w3 (Adds.refl _) j _ hx
          dsimp only at b0 b1 b2 b3
          have D0 := Lib.hid b0
          have D1 := Lib.hid b1
          have D2 := Lib.hid b2
          have D3 := Lib.hid b3
          have d0 := keep_cell (HAD.out.trans HA2.out) b0
          have d1 := keep_cell (HAD.out.trans HA2.out) b1
          have d2 := keep_cell (HAD.out.trans HA2.out) b2
          have d3 := keep_cell (HAD.out.trans HA2.out) b3
          clear b0 b1 b2 b3
          have hvx := HWB.out j
          rw [wOf_get hx] at hvx
          dsimp only at hvx
          have HXX := Lib.hid hx
          clear hx
          have hws : wo.heap.size ≤ wr.heap.size := HA2.out.size
          have HSB1 : Hid (Q.Sublist (List.range (j + 1))) := Lib.hid (by rw [List.range_succ]; exact HQS.out.trans (List.sublist_append_left _ _))
          by_cases him : j < ml
          · have hil : decide (j < ml) = true := decide_eq_true him
            have hil2 : decide ((j : Int) < (ml : Int)) = true := decide_eq_true (by omega)
            have hil3 : (j : Int) < (ml : Int) := by omega
            obtain ⟨u, hu⟩ : ∃ u, La[j]? = some u := ⟨_, List.getElem?_eq_getElem (by have := HML.out; omega)⟩
            obtain ⟨g2, off2, rfl, ku⟩ := HLA.out wr ((HA3.out.trans HAD.out).trans HA2.out) j u hu
            clear hu
            obtain ⟨par, hpar⟩ : ∃ b, (u.tmod 3 == 0) = b := ⟨_, rfl⟩
            cases par
            · go_wp2
              refine ⟨⟨j + 1, Q, nq, pq, cq, s2, by omega, by go_num, rfl, rfl, HNQ, by omega, by omega, by omega, HS2, HSB1, HOQ, HA2⟩, by simp [intOf]; omega⟩
            · go_wp2_with (at_builtin; ((refine wpList_append_lies _ rfl _ _ 22 rfl wo.heap.size 72 i0 (.agg #[.int .i64 0, .int .i64 0, .int .i64 0, .int .i64 0]) 4 32 Try.underlying22 HI.out HI0.out HI1.out HI2.out rfl (by decide) (.slice pq nq cq) nq _ rfl (HOQ.out.alloc _) ⟨wr.heap.size, 0, none⟩ 1 1 [.int .i64 x0, .int .i64 x1, .int .i64 x2, .int .i64 x3] rfl rfl (World.news_of_block (Box.new wr _ 72)) (by simp [Value.oneCell']) (by omega) (by unfold maxLen; omega) (by omega) (by simp; omega) (wr.heap.size + 1) (by simp) ?_); intro g7 c7 w7 ho hg hl hs7; have HO7 := Lib.hid ho; have HG7 := Lib.hid hg; clear ho hg hl; have HA7 : Hid (Adds wo w7) := Lib.hid (Below.grown (HA2.out.alloc _) HG7.out (by simp; omega) (fun j hj => (own_block HOQ.out hj).1)); have e0 := keep_cell (HAD.out.trans HA7.out) D0.out; have e1 := keep_cell (HAD.out.trans HA7.out) D1.out; have e2 := keep_cell (HAD.out.trans HA7.out) D2.out; have e3 := keep_cell (HAD.out.trans HA7.out) D3.out))
              refine ⟨⟨j + 1, Q ++ [j], nq + 1, _, _, s2 + x3, by omega, by go_num, rfl, rfl, Lib.hid (by rw [List.length_append, HNQ.out]; rfl), by omega, by omega, by omega, Lib.hid (by rw [worthL_snoc, ← HS2.out, wOf_get HXX.out]), Lib.hid (by rw [List.range_succ]; exact HQS.out.append (List.Sublist.refl _)), Lib.hid (by rw [pick_flat _ HXX.out]; exact HO7.out), HA7⟩, by simp [intOf]; omega⟩
          · have hil : decide (j < ml) = false := decide_eq_false him
            have hil2 : decide ((j : Int) < (ml : Int)) = false := decide_eq_false (by omega)
            go_wp2
            refine ⟨⟨j + 1, Q, nq, pq, cq, s2, by omega, by go_num, rfl, rfl, HNQ, by omega, by omega, by omega, HS2, HSB1, HOQ, HA2⟩, by simp [intOf]; omega⟩
        · have hjm2 : m0 = j := by omega
          subst hjm2
          clear hjm
          have hLn : L.Nodup := HSRT.out.imp (fun h => Nat.ne_of_lt h)
          have hPs := HSUB.out
          have hPn : P.Nodup := hLn.sublist hPs
          have hQn : Q.Nodup := List.Nodup.sublist HQS.out List.nodup_range
          have hQb : ∀ i ∈ Q, i < m0 := fun i hi => List.mem_range.1 (HQS.out.subset hi)
          have hPb : ∀ i ∈ P, i < m0 := fun i hi => HINN.out i (hPs.subset hi)
          have hLG : ∀ i, i ∈ L → G i = true := fun i hi => by rw [HLL.out] at hi; exact (List.mem_filter.1 hi).2
          have hfL : (shOf l0 K).Fit (fun i => decide (i ∈ L)) := HGG.out.fit.less fun i _ hi => hLG i (of_decide_eq_true hi)
          have hfP : (shOf l0 K).Fit (fun i => decide (i ∈ P)) := HGG.out.fit.less fun i _ hi => hLG i (hPs.subset (of_decide_eq_true hi))
          have hdL := (HPD.out L hLn HINN.out).2 hfL
          have hdP := (HPD.out P hPn hPb).2 hfP
          obtain ⟨z, hz⟩ : ∃ z : Bool, z = true ↔ CanDry (pickL l0 Q) K := by classical exact ⟨decide (CanDry (pickL l0 Q) K), by simp⟩
          have hle : z = true → s2 ≤ sm := fun h => by
            have h1 := HMO.out G _ HGG.out ((HPD.out Q hQn hQb).1 (hz.1 h))
            rw [range_filter HQS.out, ← HS2.out, ← HLL.out, ← HS3.out] at h1
            exact h1
          have hokT : ∀ T : List Nat, (∀ i ∈ T, i < m0) → ∀ x ∈ pickL l0 T, okB x = true := fun T hT x hx => by
            obtain ⟨k, hk⟩ := List.getElem?_of_mem hx
            have hkl := (List.getElem?_eq_some_iff.1 hk).1
            rw [pickL_len] at hkl
            obtain ⟨i, hi⟩ : ∃ i, T[k]? = some i := ⟨_, List.getElem?_eq_getElem hkl⟩
            rw [pickL_get hi (by rw [← HM0.out]; exact hT i (List.mem_of_getElem? hi))] at hk
            exact HOK0.out x (List.mem_of_getElem? hk)
          have HB1 := Lib.hid (own_loads HOB.out (by rw [pickL_len]; exact HN3L.out))
          have HB2 := Lib.hid (own_loads HOP.out (by rw [pickL_len]; exact HNP.out))
          have HB3 := Lib.hid (own_loads HOQ.out (by rw [pickL_len]; exact HNQ.out))
          have HG1 := Lib.hid (fun W (hW : Adds wr W) => give_n pb cb n3 (pickL l0 L) W (HB1.out.later (HA2.out.trans hW)) (by rw [pickL_len]; exact HN3L.out) (by omega))
          have HG2 := Lib.hid (fun W (hW : Adds wr W) => give_n pp cp np (pickL l0 P) W (HB2.out.later (HA2.out.trans hW)) (by rw [pickL_len]; exact HNP.out) (by omega))
          have HG3 := Lib.hid (fun W (hW : Adds wr W) => give_n pq cq nq (pickL l0 Q) W (HB3.out.later hW) (by rw [pickL_len]; exact HNQ.out) (by omega))
          have HF1 := Lib.hid (fun q c W h => Fits_n q c n3 K (pickL l0 L) W h (by rw [pickL_len]; exact HN3L.out) (by omega) (hokT L HINN.out) (by omega) true (by simp only [true_iff]; exact hdL))
          have HF2 := Lib.hid (fun q c W h => Fits_n q c np K (pickL l0 P) W h (by rw [pickL_len]; exact HNP.out) (by omega) (hokT P hPb) (by omega) true (by simp only [true_iff]; exact hdP))
          have HF3 := Lib.hid (fun q c W h => Fits_n q c nq K (pickL l0 Q) W h (by rw [pickL_len]; exact HNQ.out) (by omega) (hokT Q hQb) (by omega) z hz)
          have HLE := Lib.hid hle
          have HA9 := Lib.hid ((HA3.out.trans HAD.out).trans HA2.out)
          clear hLn hPs hPn hQn hQb hPb hLG hfL hfP hdL hdP hz hle hokT HL3
          go_upto_region 25 with (first
            | (go_at_call 16; refine (HG1.out _ (Adds.refl _)).mono ?_; rintro e w5 ⟨c5, q5, rfl, hq5, hb5⟩; have HQ5 := Lib.hid hq5; have HB5 := Lib.hid hb5; clear hq5 hb5)
            | (go_at_call 15; refine (HF1.out _ _ _ HQ5.out).mono ?_; rintro e w6 ⟨rfl, hb6⟩; have HB6 := Lib.hid hb6; clear hb6))
          go_upto_region 26 with (first
            | (go_at_call 16; refine (HG2.out _ (HB5.out.trans HB6.out)).mono ?_; rintro e w7 ⟨c7, q7, rfl, hq7, hb7⟩; have HQ7 := Lib.hid hq7; have HB7 := Lib.hid hb7; clear hq7 hb7)
            | (go_at_call 15; refine (HF2.out _ _ _ HQ7.out).mono ?_; rintro e w8 ⟨rfl, hb8⟩; have HB8 := Lib.hid hb8; clear hb8))
          go_upto_region 27 with (first
            | (go_at_call 16; refine (HG3.out _ ((HB5.out.trans HB6.out).trans (HB7.out.trans HB8.out))).mono ?_; rintro e w9 ⟨c9, q9, rfl, hq9, hb9⟩; have HQ9 := Lib.hid hq9; have HB9 := Lib.hid hb9; clear hq9 hb9)
            | (go_at_call 15; refine (HF3.out _ _ _ HQ9.out).mono ?_; rintro e w10 ⟨rfl, hb10⟩; have HB10 := Lib.hid hb10; clear hb10))
          cases z
          · go_wp2_with (go_at_call 17; refine (awake_any _).mono ?_; rintro e w11 ⟨rfl, hb11⟩; have HB11 := Lib.hid hb11; clear hb11)
            go_ret
            exact ⟨rfl, (((HA9.out.trans (HB5.out.trans HB6.out)).trans (HB7.out.trans HB8.out)).trans (HB9.out.trans HB10.out)).trans HB11.out⟩
          · have hle := HLE.out rfl
            have hled : decide (s2 ≤ sm) = true := decide_eq_true hle
            go_wp2_with (go_at_call 17; refine (awake_any _).mono ?_; rintro e w11 ⟨rfl, hb11⟩; have HB11 := Lib.hid hb11; clear hb11)
            go_ret
            exact ⟨rfl, (((HA9.out.trans (HB5.out.trans HB6.out)).trans (HB7.out.trans HB8.out)).trans (HB9.out.trans HB10.out)).trans HB11.out⟩
end Go.Proofs.Ytkofnhimgegcnaa

namespace Go.Proofs.Ytkofnhimgegcnaa
open Go Go.ChangeShapes Go.WideShapes Go.ChangeAt Go.RowKit Go.Deep

/-- The cells of a slice that a law is given. -/
def CellsAt (w : World) (p : Option Addr) (xs : List Value) : Prop := ∀ j u, xs[j]? = some u → ∃ g off, p = some ⟨g, off, none⟩ ∧ w.cell? ⟨g, off + j, none⟩ = some u
theorem flat_at {α : Type} {f : α → List Value} {k : Nat} (hf : ∀ x, (f x).length = k) (hk : 0 < k) : ∀ (l : List α) (j : Nat) (u : Value), (l.flatMap f)[j]? = some u → ∃ x, l[j / k]? = some x ∧ (f x)[j % k]? = some u
  | [], j, u, h => by simp at h
  | x :: l, j, u, h => by
    rw [List.flatMap_cons] at h
    by_cases hj : j < k
    · rw [List.getElem?_append_left (by rw [hf]; exact hj)] at h
      exact ⟨x, by rw [Nat.div_eq_of_lt hj]; rfl, by rw [Nat.mod_eq_of_lt hj]; exact h⟩
    · rw [List.getElem?_append_right (by rw [hf]; omega), hf] at h
      obtain ⟨y, h1, h2⟩ := flat_at hf hk l (j - k) u h
      refine ⟨y, ?_, ?_⟩
      · rw [show j = (j - k) + k by omega, Nat.add_div_right _ hk, List.getElem?_cons_succ]
        exact h1
      · rw [show j = (j - k) + k by omega, Nat.add_mod_right]
        exact h2

section
variable {H : Type} {enc : TypeId × Value → H} {P : Program} {w : World} {base : Nat} {α : Type} {f : α → List Value} {k : Nat} {t e : TypeId} {fuel : Nat} {cs : List Value} {x : DataW H × List MemPlace}
/-- A slice whose elements are encoded numbers. -/
theorem open_cells [Inhabited α] (ht : P.underlying t = some (.slice e)) (hc : P.cellsOf e = k) (hk : 0 < k) (hf : ∀ x, (f x).length = k)
    (hel : ∀ (n : Nat) (cs : List Value) (x : DataW H × List MemPlace), DataW.trod enc P w base (fun _ => true) true n e cs = some x → ∃ g : α, cs = f g)
    (h : DataW.trod enc P w base (fun _ => true) true fuel t cs = some x) :
    ∃ (q : Option Addr) (cap : Nat) (l : List α), cs = [.slice q l.length cap] ∧ l.length ≤ cap ∧ cap ≤ maxLen ∧ CellsAt w q (l.flatMap f) := by
  rcases open_slice ht h with ⟨hcs, _⟩ | ⟨a, len, cap, m, n, D, Pl, hcs, _, hl, hm, hmm, _, hi⟩
  · exact ⟨none, 0, [], hcs, Nat.le_refl _, by simp [maxLen], fun j u hj => by simp at hj⟩
  · simp only [if_true] at hmm
    subst hmm
    have key : ∀ i, i < len → ∃ g : α, ∀ j u, (f g)[j]? = some u → w.cell? ((a.add (i * k)).add j) = some u := fun i him => by
      obtain ⟨cs', hc', ht'⟩ := hi i (by omega)
      rw [hc] at hc'
      obtain ⟨g, rfl⟩ := hel _ _ _ ht'
      obtain ⟨_, hcl, hat⟩ := World.cells?_some hc'
      exact ⟨g, fun j u hj => by rw [hat j (by have := (List.getElem?_eq_some_iff.1 hj).1; rw [hf] at this; exact this)]; exact hj⟩
    obtain ⟨l, hll, hlc⟩ : ∃ l : List α, l.length = len ∧ ∀ i g, l[i]? = some g → ∀ j u, (f g)[j]? = some u → w.cell? ((a.add (i * k)).add j) = some u := by
      refine ⟨(List.range len).map fun i => if h : i < len then Classical.choose (key i h) else default, by simp, fun i x hx => ?_⟩
      rw [List.getElem?_map] at hx
      obtain ⟨j, hj, rfl⟩ := Option.map_eq_some_iff.1 hx
      have hlt : i < len := by have := (List.getElem?_eq_some_iff.1 hj).1; simpa using this
      have hij : j = i := by have := (List.getElem?_eq_some_iff.1 hj).2; simpa using this.symm
      subst hij
      simp only [dif_pos hlt]
      exact Classical.choose_spec (key j hlt)
    refine ⟨some a, _, l, by rw [hll]; exact hcs, by omega, hm, fun j u hj => ?_⟩
    obtain ⟨g, h1, h2⟩ := flat_at hf hk l j u hj
    have hcell := hlc _ _ h1 _ _ h2
    obtain ⟨b, off, spot⟩ := a
    have hspot : spot = none := by
      obtain ⟨g0, hg0⟩ : ∃ y, l[0]? = some y := ⟨_, List.getElem?_eq_getElem (Nat.lt_of_le_of_lt (Nat.zero_le _) (List.getElem?_eq_some_iff.1 h1).1)⟩
      have := hlc 0 g0 hg0 0 _ (List.getElem?_eq_getElem (by rw [hf]; exact hk))
      simpa [Addr.add] using World.cell?_spot this
    subst hspot
    rw [addr_add2, addr_add2] at hcell
    refine ⟨b, off, rfl, ?_⟩
    rw [show off + j = off + j / k * k + j % k by have := Nat.div_add_mod j k; rw [Nat.mul_comm] at this; omega]
    exact hcell
end

section
variable {H : Type} {enc : TypeId × Value → H} {w : World} {base : Nat} {spare : Nat → Bool} {held : Bool} {n : Nat} {cs : List Value} {x : DataW H × List MemPlace}
theorem int_cells (h : DataW.trod enc Try.prog w base spare held n 3 cs = some x) : ∃ g : Int, cs = [.int .i64 g] := by
  obtain ⟨a, e0, _, _⟩ := DataW.trod_int Try.underlying3 h
  exact ⟨a, e0⟩
end

theorem flat_one (l : List Int) : l.flatMap (fun g => [Value.int .i64 g]) = l.map (Value.int .i64) := by
  induction l with
  | nil => rfl
  | cons x l ih => rw [List.flatMap_cons, ih]; rfl


set_option maxRecDepth 100000 in
theorem open_nums {H : Type} {enc : TypeId × Value → H} {w : World} {r : Reach} {b0 : Nat} {v : Value} {d : DataW H} {p : List MemPlace}
    (hv : Value.okWide Try.prog w r b0 35 v) (h : DataW.Trod enc Try.prog w 0 (fun _ => true) true 35 v d p) :
    ∃ (q : Option Addr) (cap : Nat) (l : List Int), v = .slice q l.length cap ∧ l.length ≤ cap ∧ cap ≤ maxLen ∧ CellsAt w q (l.map (Value.int .i64)) := by
  obtain ⟨q, len, cap, rfl⟩ := okWide_slice Try.underlying35 hv
  obtain ⟨fuel, hf⟩ := h
  obtain ⟨q', cap', l, h1, h2, h3, h4⟩ := open_cells (f := fun g : Int => [Value.int .i64 g]) Try.underlying35 cells3 (by omega) (fun _ => rfl) (fun _ _ _ => int_cells) hf
  rw [flat_one] at h4
  simp [Value.cells] at h1
  obtain ⟨rfl, rfl, rfl⟩ := h1
  exact ⟨_, _, l, rfl, h2, h3, h4⟩
theorem cells_argI {w : World} {q : Option Addr} {l : List Int} (h : CellsAt w q (l.map (Value.int .i64))) : ArgI w q l := fun j x hj => h j _ (by rw [List.getElem?_map, hj]; rfl)

set_option maxRecDepth 100000 in
theorem sets_lifted (os : Os) (started : os.Started) (H : Type) (enc : TypeId × Value → H) :
    ReturnsInHanded {} Try.checked os 9 .any (Rows.drySetsSpec.pre6 enc Try.prog Try.f9 Rows.drySetsRow.domain false) (Rows.drySetsSpec.post enc Try.prog Try.f9 false true false false) := by
  refine returnsInHanded_of_change (C := Try.checked) own started (by kernel_rfl) Try.func9
    (ChangeSpec.witness6 (enc := enc) (C := Try.checked) false ⟨#[], #[.slice none 0 0, .int .i64 0, .slice none 0 0], []⟩ 9 (by kernel_rfl) (by kernel_rfl) (by kernel_rfl) (by kernel_rfl)) ?_
  intro W base args ds gs before hval0 hW hcnd _
  have hval : ∀ (j : Nat) t v, Try.f9.params[j]? = some t → args[j]? = some v → Value.okWide Try.prog W .any base t v := hval0
  have hW' := hW
  obtain ⟨p, q, hA0, hV, rfl, hfz, hnd⟩ := hW
  have hA : DataW.TrodAll enc Try.prog W 0 (fun _ => true) true Try.f9.params.toList args.toList ds p := hA0
  rw [Try.params9] at hA hval
  obtain ⟨v0, v1, v2, d0, d1, d2, p0, p1, p2, rfl, rfl, rfl, h0, h1, h2⟩ := trodAll_three hA
  obtain ⟨rfl, rfl⟩ := trodVars_none hV
  obtain ⟨a, cap, l, rfl, hcap, hcm, hloads⟩ := open_loads (hval 0 22 v0 rfl rfl) h0
  obtain ⟨x1, rfl⟩ := okWide_int Try.underlying3 (hval 1 3 v1 rfl rfl)
  obtain ⟨q2, c2, La, rfl, hc2, hm2, hLa⟩ := open_nums (hval 2 35 v2 rfl rfl) h2
  clear hA0 hval0
  simp only [List.append_nil] at hW'
  refine (sets_law a cap l x1 q2 c2 La W hloads hcap hcm (cells_argI hLa) hc2 hm2).mono fun e W' ⟨he, hb⟩ => ?_
  subst he
  have hlt : ∀ x ∈ p0 ++ p1 ++ p2, x.block < W.heap.size := fun x hx => hW'.lt x (by simpa using hx)
  exact ⟨_, rfl, post_of_adds (pa := p0 ++ (p1 ++ p2)) (pv := []) hW' (fun _ _ _ => trodAll_mk1 (shut_bool Try.underlying4 _))
    (fun sp hs => trodAll_mk3 (arg_stays (by kernel_rfl) (of_decide_eq_true (by kernel_rfl)) h0 hb (fun x hx => hlt x (List.mem_append_left _ (List.mem_append_left _ hx))) (fun x hx => hs x (List.mem_append_left _ (List.mem_append_left _ hx)))) (arg_stays (by kernel_rfl) (of_decide_eq_true (by kernel_rfl)) h1 hb (fun x hx => hlt x (List.mem_append_left _ (List.mem_append_right _ hx))) (fun x hx => hs x (List.mem_append_left _ (List.mem_append_right _ hx)))) (arg_stays (by kernel_rfl) (of_decide_eq_true (by kernel_rfl)) h2 hb (fun x hx => hlt x (List.mem_append_right _ hx)) (fun x hx => hs x (List.mem_append_right _ hx)))) (fun _ _ => rfl) (by simp)
    hb (ok_one (by kernel_rfl) rfl (okWide_bool_mk Try.underlying4 _))⟩

theorem sets_holds : Rows.DrySetsSaid :=
  OpenClaim.holds_of_wide 9 Try.f9 rfl rfl rfl rfl rfl rfl rfl ⟨rfl, rfl, rfl, rfl, rfl⟩ rfl rfl rfl rfl rfl (by kernel_rfl) Try.func9 (by kernel_rfl)
    (of_decide_eq_true (by kernel_rfl)) (by unfold Func.isWrapper; first | (rw [if_pos (by decide +kernel)]; kernel_rfl) | (rw [if_neg (by decide +kernel)]; exact ⟨rfl, rfl⟩))
    (fun os started H enc _ => sets_lifted os started H enc)

end Go.Proofs.Ytkofnhimgegcnaa
