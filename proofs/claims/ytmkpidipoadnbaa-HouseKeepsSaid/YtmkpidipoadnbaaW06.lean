/- A region that draws its order and ends in a store: loads of the cell that is stored are taken first, too. No program. -/
import Derived.Test.YtmkpidipoadnbaaW05
import Derived.Laws.BitsLemmas
import Derived.Deep.RegionHeld
namespace Go.Proofs.Ytmkpidipoadnbaa
open Go Go.RowKit Go.Sort

theorem lt_bitLenAux : ∀ (f x : Nat), x < 2 ^ f → x < 2 ^ Lib.bitLenAux f x
  | 0, x, h => by simp at h; subst h; simp [Lib.bitLenAux]
  | f + 1, x, h => by
    unfold Lib.bitLenAux
    by_cases h0 : x = 0
    · subst h0; simp
    · have ih := lt_bitLenAux f (x / 2) (by rw [Nat.pow_succ] at h; omega)
      rw [if_neg h0, Nat.add_comm, Nat.pow_succ]
      omega
theorem lt_bitLen (x : Nat) (h : x < 18446744073709551616) : x < 2 ^ Lib.bitLen x := lt_bitLenAux 64 x h

theorem wraps_64 (n : Int) (h0 : 0 ≤ n) (h1 : n < 2 ^ 64) : IntKind.u64.wrap n = n := by rw [IntKind.wrap_u64]; omega
theorem and_one (x : Int) (h0 : 0 ≤ x) (h1 : x ≤ 18446744073709551615) : bits .and .u64 x 1 = x % 2 := by
  have h := bits_mask .u64 64 (by decide) wraps_64 1 (by decide) x h0 (by omega)
  exact h
theorem or_even (x b : Int) (h0 : 0 ≤ x) (h1 : x ≤ 18446744073709551615) (he : x % 2 = 0) (hb : 0 ≤ b) (hb2 : b ≤ 1) : bits .or .u64 x b = x + b := by
  obtain ⟨n, hn⟩ : ∃ n : Nat, x = (2 * n : Nat) := ⟨(x / 2).toNat, by omega⟩
  obtain ⟨m, rfl⟩ : ∃ m : Nat, b = m := ⟨b.toNat, by omega⟩
  subst hn
  have h := (bits_nat .u64 64 (by decide) wraps_64 (2 * n) m (by omega) (by omega)).2
  have e := Nat.two_pow_add_eq_or_of_lt (i := 1) (b := m) (by omega) n
  simp only [Nat.pow_one] at e
  rw [← e] at h
  rw [h]
  omega
theorem shift_low {a b x : Int} {i : Nat} (_ha : 0 ≤ a) (_hb : 0 ≤ b) (_hb2 : b ≤ 18446744073709551615) (hx : a * 18446744073709551616 + b = x) (hi : i < 64) : b / 2 ^ i % 2 = x / 2 ^ i % 2 := by
  subst hx
  have e : a * 18446744073709551616 + b = b + (a * 2 ^ (63 - i)) * 2 * 2 ^ i := by
    have h1 : (18446744073709551616 : Int) = 2 ^ (63 - i) * 2 * 2 ^ i := by
      rw [Int.mul_assoc, show (2 : Int) * 2 ^ i = 2 ^ (i + 1) by rw [Int.pow_succ, Int.mul_comm], ← Int.pow_add, show 63 - i + (i + 1) = 64 by omega]
      rfl
    rw [h1]
    simp only [Int.mul_assoc]
    exact Int.add_comm _ _
  have hp : (2 : Int) ^ i ≠ 0 := by
    have := Int.pow_pos (n := 2) (m := i) (by decide)
    omega
  rw [e, Int.add_mul_ediv_right _ _ hp]
  omega
theorem shift_high {a b x : Int} {i : Nat} (_ha : 0 ≤ a) (hb : 0 ≤ b) (hb2 : b ≤ 18446744073709551615) (hx : a * 18446744073709551616 + b = x) (hi : 64 ≤ i) : a / 2 ^ (i - 64) % 2 = x / 2 ^ i % 2 := by
  subst hx
  have h1 : (2 : Int) ^ i = 18446744073709551616 * 2 ^ (i - 64) := by
    have : (18446744073709551616 : Int) = 2 ^ 64 := rfl
    rw [this, ← Int.pow_add, show 64 + (i - 64) = i by omega]
  rw [h1, ← Int.ediv_ediv_of_nonneg (by omega), show (a * 18446744073709551616 + b) / 18446744073709551616 = a by omega]
theorem shift_bd {b : Int} (i : Nat) (hb : 0 ≤ b) (hb2 : b ≤ 18446744073709551615) : 0 ≤ b / 2 ^ i ∧ b / 2 ^ i ≤ 18446744073709551615 := by
  have hp : (0 : Int) < 2 ^ i := Int.pow_pos (by decide)
  exact ⟨Int.ediv_nonneg hb (by omega), Int.le_trans (Int.ediv_le_self _ hb) hb2⟩

/-- As many bits as x has, at least. -/
def LenGot (x : Int) (w : World) (e : Ending) (w' : World) : Prop := ∃ n : Nat, e = .returned (.int .i64 (n : Int)) ∧ x < 2 ^ n ∧ n ≤ 126 ∧ Adds w w'

set_option maxRecDepth 100000 in
set_option maxHeartbeats 1000000 in
theorem length_any (x : Int) (w : World) (hx : InW x) (h0 : 0 ≤ x) : Calls Try.prog 68 #[wideV x] w (LenGot x w) := by
  have a1 : 0 ≤ hiW x := by unfold hiW; omega
  have a2 := hi_hi hx
  have a3 := lo_lo x
  have a4 := lo_hi x
  have HX := Lib.hid (hi_wide x)
  unfold wideV
  generalize hiW x = a at *
  generalize loW x = b at *
  by_cases hz : a = 0
  · have hg : (a == 0) = true := by simp [hz]
    have HLN := Lib.hid (fun w => bits_Len64 b w a3 a4)
    obtain ⟨n, hn⟩ : ∃ n, n = Lib.bitLen b.toNat := ⟨_, rfl⟩
    have h1 := lt_bitLen b.toNat (by omega)
    have h2 := Lib.bitLen_le b.toNat 64 (by omega) (by omega)
    rw [← hn] at HLN h1 h2
    have HF : Hid (x < 2 ^ n ∧ n ≤ 126) := Lib.hid (by
      have := HX.out
      have e : ((2 ^ n : Nat) : Int) = (2 : Int) ^ n := by simp
      refine ⟨?_, by omega⟩
      rw [← e]
      omega)
    clear hn h1 hz h2 hx h0
    go_enter Try.func68, Try.ntmps68
    go_wp2_with (go_at_call 77; refine (HLN.out _).mono ?_; rintro e w1 ⟨rfl, rfl⟩)
    go_ret
    exact ⟨n, rfl, HF.out.1, HF.out.2, (Adds.refl w).alloc _⟩
  · have hg : (a == 0) = false := by simp [hz]
    have HLN := Lib.hid (fun w => bits_Len64 a w a1 (by omega))
    obtain ⟨n, hn⟩ : ∃ n, n = Lib.bitLen a.toNat := ⟨_, rfl⟩
    have h1 := lt_bitLen a.toNat (by omega)
    have h2 := Lib.bitLen_le a.toNat 62 (by omega) (by omega)
    rw [← hn] at HLN h1 h2
    have HF : Hid (x < 2 ^ (64 + n) ∧ 64 + n ≤ 126) := Lib.hid (by
      have := HX.out
      have e : ((2 ^ (64 + n) : Nat) : Int) = (2 : Int) ^ (64 + n) := by simp
      refine ⟨?_, by omega⟩
      rw [← e, Nat.pow_add]
      omega)
    clear hn h1 hz hx h0
    go_enter Try.func68, Try.ntmps68
    go_wp2_with (go_at_call 77; refine (HLN.out _).mono ?_; rintro e w1 ⟨rfl, rfl⟩)
    go_ret
    exact ⟨64 + n, ret_int (by omega), HF.out.1, HF.out.2, (Adds.refl w).alloc _⟩

set_option maxRecDepth 100000 in
set_option maxHeartbeats 1000000 in
theorem bit_any (x : Int) (i : Nat) (w : World) (hx : InW x) (h0 : 0 ≤ x) (hi : i ≤ 126) : Calls Try.prog 69 #[wideV x, .int .i64 (i : Int)] w fun e w' => e = .returned (.int .u64 (x / 2 ^ i % 2)) ∧ Adds w w' := by
  have a1 : 0 ≤ hiW x := by unfold hiW; omega
  have a2 := hi_hi hx
  have a3 := lo_lo x
  have a4 := lo_hi x
  have HX := Lib.hid (hi_wide x)
  unfold wideV
  generalize hiW x = a at *
  generalize loW x = b at *
  clear hx h0
  by_cases hz : i < 64
  · have hz1 : (i : Int) < 64 := by omega
    go_enter Try.func69, Try.ntmps69
    go_wp2
    go_ret
    exact ⟨ret_int (by rw [and_one _ (shift_bd i a3 a4).1 (shift_bd i a3 a4).2, shift_low a1 a3 a4 HX.out hz]), (Adds.refl w).alloc _⟩
  · have hz1 : ¬ (i : Int) < 64 := by omega
    have hz2 : (64 : Int) ≤ (i : Int) := by omega
    go_enter Try.func69, Try.ntmps69
    go_wp2
    go_ret
    exact ⟨ret_int (by rw [and_one _ (shift_bd _ a1 (by omega)).1 (shift_bd _ a1 (by omega)).2, shift_high a1 a3 a4 HX.out (by omega)]), (Adds.refl w).alloc _⟩

end Go.Proofs.Ytmkpidipoadnbaa

namespace Go.Proofs.Ytmkpidipoadnbaa
open Go

section
variable {P : Program} {ops : Array Oper} {Q : Exit → Act → World → Prop} {md : Region.Mode} {S : World → Prop} {z : Nat} {Z : Nat → Bool}

/-- Whatever order is picked from here on, and S holds behind each operation but those of Z. -/
def wpAnyZ (P : Program) (md : Region.Mode) (ops : Array Oper) (Q : Exit → Act → World → Prop) (S : World → Prop) (Z : Nat → Bool) : Nat → Array Bool → Act → World → Prop
  | 0, listed, a, w => Region.ready md ops listed = [] ∧ Q .normal a w
  | fuel + 1, listed, a, w =>
    (Region.ready md ops listed = [] → Q .normal a w) ∧
    ∀ i ∈ Region.ready md ops listed, wpOp P ops Q i (fun a' w' => (Z i = true ∨ S w') ∧ wpAnyZ P md ops Q S Z fuel (listed.setIfInBounds i true) a' w') a w

theorem wpAny_of_Z : ∀ (fuel : Nat) (listed : Array Bool) (a : Act) (w : World), wpAnyZ P md ops Q S Z fuel listed a w → wpAny P md ops Q fuel listed a w
  | 0, _, _, _, h => h
  | fuel + 1, _, _, _, h => ⟨h.1, fun i hi => wpOp_mono (fun a' w' h' => wpAny_of_Z fuel _ a' w' h'.2) (h.2 i hi)⟩

/-- Number z waits for number i. -/
def waitsB (md : Region.Mode) (ops : Array Oper) (z i : Nat) : Bool :=
  match ops[z]? with
  | some o => o.after.any (fun e => Region.binds md e && e.on == i)
  | none => false

theorem waits_spec {i : Nat} (h : waitsB md ops z i = true) : ∃ oz, ops[z]? = some oz ∧ ∃ e ∈ oz.after, Region.binds md e = true ∧ e.on = i := by
  unfold waitsB at h
  split at h
  · rename_i o ho
    rw [Array.any_eq_true] at h
    obtain ⟨k, hk, he⟩ := h
    rw [Bool.and_eq_true] at he
    exact ⟨o, ho, _, Array.getElem_mem hk, he.1, by simpa using he.2⟩
  · cases h

/-- Number z waits for number i, or for one that does. -/
def waitsT (md : Region.Mode) (ops : Array Oper) : Nat → Nat → Nat → Bool
  | 0, _, _ => false
  | f + 1, z, i => waitsB md ops z i || (List.range ops.size).any fun k => waitsB md ops z k && waitsT md ops f k i
/-- All of Z wait for number i. -/
def allWait (md : Region.Mode) (ops : Array Oper) (Z : Nat → Bool) (i : Nat) : Bool := (List.range ops.size).all fun z => !Z z || waitsT md ops 4 z i
/-- What an operation that was listed waits for was listed, too. -/
def ClosedL (md : Region.Mode) (ops : Array Oper) (listed : Array Bool) : Prop := ∀ (j : Nat) (o : Oper), ops[j]? = some o → listed.getD j false = true → ∀ e ∈ o.after, Region.binds md e = true → listed.getD e.on false = true
def closedB (md : Region.Mode) (ops : Array Oper) (listed : Array Bool) : Bool := (List.range ops.size).all fun j => !listed.getD j false || match ops[j]? with | some o => o.after.all fun e => !Region.binds md e || listed.getD e.on false | none => true
theorem closed_of {listed : Array Bool} (h : closedB md ops listed = true) : ClosedL md ops listed := fun j o ho hl e he hb => by
  have h1 := List.all_eq_true.1 h j (List.mem_range.2 (Array.getElem?_eq_some_iff.1 ho).1)
  rw [hl, ho] at h1
  have h2 : o.after.all (fun e => !Region.binds md e || listed.getD e.on false) = true := by simpa using h1
  obtain ⟨k, hk, rfl⟩ := Array.getElem_of_mem he
  have h3 := Array.all_eq_true.1 h2 k hk
  rw [hb] at h3
  simpa using h3
theorem closed_next {listed : Array Bool} {i : Nat} (hc : ClosedL md ops listed) (hr : i ∈ Region.ready md ops listed) : ClosedL md ops (listed.setIfInBounds i true) := fun j o ho hl e he hb => by
  by_cases hij : i = j
  · subst hij
    obtain ⟨_, o', ho', hall⟩ := mem_ready.1 hr
    rw [ho] at ho'
    cases ho'
    exact getD_set_true (hall e he hb)
  · rw [getD_set_ne false hij] at hl
    exact getD_set_true (hc j o ho hl e he hb)
theorem listed_of_waitsT {listed : Array Bool} (hc : ClosedL md ops listed) : ∀ (f z i : Nat), (∀ o, ops[z]? = some o → ∀ e ∈ o.after, Region.binds md e = true → listed.getD e.on false = true) → waitsT md ops f z i = true → listed.getD i false = true
  | 0, _, _, _, h => by cases h
  | f + 1, z, i, hz, h => by
    unfold waitsT at h
    rw [Bool.or_eq_true] at h
    rcases h with h | h
    · obtain ⟨oz, hoz, ez, hez, hbz, rfl⟩ := waits_spec h
      exact hz oz hoz ez hez hbz
    · rw [List.any_eq_true] at h
      obtain ⟨k, _, hk⟩ := h
      rw [Bool.and_eq_true] at hk
      obtain ⟨oz, hoz, ez, hez, hbz, rfl⟩ := waits_spec hk.1
      have hl := hz oz hoz ez hez hbz
      exact listed_of_waitsT hc f _ i (fun o ho e he hb => hc _ o ho hl e he hb) hk.2

theorem wpAnyZ_first {i : Nat} {oi : Oper} {v : Value} (hi : ops[i]? = some oi) (hsel : ∀ (j : Nat) (o : Oper) cs b, ops[j]? = some o → o.op ≠ .select cs b)
    (hQ : ∀ c a w, Q (.panic c) (a.put oi.dst v) w → Q (.panic c) a w) (hz : allWait md ops Z i = true) :
    ∀ (fuel : Nat) (listed : Array Bool) (a : Act) (w : World),
      (∀ j oj, ops[j]? = some oj → j ≠ i → listed.getD j true = false → (∀ e ∈ oj.after, Region.binds md e = true → e.on ≠ i) → oi.apart ops oj = true) →
      ClosedL md ops listed → i ∈ Region.ready md ops listed → YieldsIf P ops S oi v a → S w →
      wpAnyZ P md ops Q S Z fuel (listed.setIfInBounds i true) (a.put oi.dst v) w → wpAnyZ P md ops Q S Z (fuel + 1) listed a w := by
  have hnz : ∀ (listed : Array Bool) (j : Nat), ClosedL md ops listed → i ∈ Region.ready md ops listed → j ∈ Region.ready md ops listed → ¬ Z j = true := fun listed j hcl hr hj he => by
    obtain ⟨_, oj, hoj, hall⟩ := mem_ready.1 hj
    have hlt := (Array.getElem?_eq_some_iff.1 hoj).1
    have hw := List.all_eq_true.1 hz j (List.mem_range.2 hlt)
    rw [he] at hw
    have h1 := listed_of_waitsT hcl 4 j i (fun o ho e he hb => by rw [hoj] at ho; cases ho; exact hall e he hb) (by simpa using hw)
    have h0 := (mem_ready.1 hr).1
    rcases Nat.lt_or_ge i listed.size with h' | h'
    · simp [h'] at h0 h1; rw [h0] at h1; cases h1
    · simp [Array.getElem?_eq_none h'] at h1
  intro fuel
  induction fuel with
  | zero =>
    intro listed a w _ hcl hr hy hS H
    refine ⟨fun h => (by rw [h] at hr; cases hr), fun j hj => ?_⟩
    by_cases hji : j = i
    · subst hji; exact hy.wpOp hi hS ⟨Or.inr hS, H⟩
    · have := ready_mono hj hji
      rw [H.1] at this
      cases this
  | succ fuel ih =>
    intro listed a w hfree hcl hr hy hS H
    refine ⟨fun h => (by rw [h] at hr; cases hr), fun j hj => ?_⟩
    by_cases hji : j = i
    · subst hji; exact hy.wpOp hi hS ⟨Or.inr hS, H⟩
    · have h1 := H.2 j (ready_mono hj hji)
      obtain ⟨hjun, oj, hoj, hall⟩ := mem_ready.1 hj
      have hnot : ∀ e ∈ oj.after, Region.binds md e = true → e.on ≠ i := fun e he hb heq => by
        have h1 := hall e he hb
        have h0 := (mem_ready.1 hr).1
        rw [heq] at h1
        rcases Nat.lt_or_ge i listed.size with h' | h'
        · simp [h'] at h0 h1; rw [h0] at h1; cases h1
        · simp [Array.getElem?_eq_none h'] at h1
      have h2 := wpOp_putIf hoj (hfree j oj hoj hji hjun hnot) (fun cs b => hsel i oi cs b hi) (fun cs b => hsel j oj cs b hoj) hQ hy h1
      have hfree' : ∀ k ok, ops[k]? = some ok → k ≠ i → (listed.setIfInBounds j true).getD k true = false →
          (∀ e ∈ ok.after, Region.binds md e = true → e.on ≠ i) → oi.apart ops ok = true := fun k ok hk hki hun hno => by
        refine hfree k ok hk hki ?_ hno
        by_cases hjk : j = k
        · subst hjk; exact hjun
        · rw [getD_set_ne true hjk] at hun; exact hun
      have hjz := hnz listed j hcl hr hj
      refine wpOp_mono (fun a' w' h3 => ?_) h2
      have hS' : S w' := h3.2.1.resolve_left hjz
      refine ⟨Or.inr hS', ih (listed.setIfInBounds j true) a' w' hfree' (closed_next hcl hj) (ready_mono hr (Ne.symm hji)) h3.1 hS' ?_⟩
      rw [Array.setIfInBounds_comm _ _ hji]
      exact h3.2.2

/-- Take number i first. -/
theorem wpAnyZ_take {i : Nat} {oi : Oper} {v : Value} {fuel : Nat} {listed : Array Bool} {a : Act} {w : World} (hi : ops[i]? = some oi)
    (hs : Region.noSelect ops = true) (hf : Region.free md ops listed i = true) (hr : (Region.ready md ops listed).contains i = true) (hz : allWait md ops Z i = true) (hcl : closedB md ops listed = true)
    (hQ : ∀ c a w, Q (.panic c) (a.put oi.dst v) w → Q (.panic c) a w) (hy : YieldsIf P ops S oi v a) (hS : S w)
    (h : wpAnyZ P md ops Q S Z fuel (listed.setIfInBounds i true) (a.put oi.dst v) w) : wpAnyZ P md ops Q S Z (fuel + 1) listed a w :=
  wpAnyZ_first hi (Region.noSelect_spec hs) hQ hz fuel listed a w (Region.free_spec hi hf) (closed_of hcl) (by simpa using hr) hy hS h

/-- One operation alone may come up: it is carried out. -/
theorem wpAnyZ_loud {i : Nat} {o : Oper} {fuel : Nat} {listed : Array Bool} {a : Act} {w : World} (hr : Region.ready md ops listed = [i]) (ho : ops[i]? = some o)
    (h : ∀ K' : Act → World → Prop, Shut (∀ a w, (Z i = true ∨ S w) → wpAnyZ P md ops Q S Z fuel (listed.setIfInBounds i true) a w → K' a w) → if Region.wanted o (yielded ops a.tmps) = true then Oper.wp P o a w K' Q else K' (a.put o.dst undef) w) :
    wpAnyZ P md ops Q S Z (fuel + 1) listed a w :=
  ⟨fun h0 => (by rw [hr] at h0; cases h0), fun j hj => by
    rw [hr, List.mem_singleton] at hj
    subst hj
    exact wpOp_step ho (fun K' hK => h K' (fun a w hS hW => hK a w ⟨hS, hW⟩))⟩

theorem wpAnyZ_done {listed : Array Bool} {a : Act} {w : World} (hr : Region.ready md ops listed = []) (h : Q .normal a w) : ∀ fuel, wpAnyZ P md ops Q S Z fuel listed a w
  | 0 => ⟨hr, h⟩
  | _ + 1 => ⟨fun _ => h, by rw [hr]; simp⟩

theorem wp_region_Z (Z : Nat → Bool) (S : World → Prop) {id : Nat} {a : Act} {w : World} (hm : P.follows .mixedOrders = true) (hS : S w.drew)
    (h : S w.drew → wpAnyZ P .any ops Q S Z ops.size (Array.replicate ops.size false) a w.drew) : (Code.region id ops true).wp P Q a w :=
  wp_region_any hm (wpAny_of_Z _ _ _ _ (h hS))

end
end Go.Proofs.Ytmkpidipoadnbaa
