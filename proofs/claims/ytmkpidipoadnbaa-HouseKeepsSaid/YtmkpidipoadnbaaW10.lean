/- A region that draws its order, by a rule for each of its operations: whatever order is picked. No program. -/
import Derived.Test.YtmkpidipoadnbaaW06
namespace Go.Proofs.Ytmkpidipoadnbaa
open Go

section
variable {P : Program} {ops : Array Oper} {Q : Exit → Act → World → Prop} {md : Region.Mode} {S : World → Prop} {Z : Nat → Bool} {Pr : Nat → Value → World → Prop} {a0 : Act}

/-- The values put where the operations put theirs. -/
def putL (a : Act) : List Oper → List Value → Act
  | o :: os, v :: vs => putL (a.put o.dst v) os vs
  | _, _ => a
def dstsB : List Oper → Bool
  | [] => true
  | o :: os => (match o.dst with | none => true | some d => os.all fun o' => o'.dst != some d) && dstsB os

theorem put_same (a : Act) (d : Option Tmp) (u v : Value) : (a.put d u).put d v = a.put d v := by
  cases d with
  | none => rfl
  | some d => simp [Act.put]
theorem put_getD (a : Act) (d : Tmp) : a.put (some d) (a.tmps.getD d undef) = a := by
  obtain ⟨tmps, defers⟩ := a
  simp only [Act.put, Act.mk.injEq, and_true]
  apply Array.ext_getElem?
  intro j
  rw [Array.getElem?_setIfInBounds]
  split
  · rename_i h
    subst h
    split
    · rename_i h; simp [h]
    · rename_i h; rw [Array.getElem?_eq_none (by omega)]
  · rfl
theorem putL_later {o : Oper} {v : Value} : ∀ (os : List Oper) (xs : List Value) (a : Act), (match o.dst with | none => true | some d => os.all fun o' => o'.dst != some d) = true → (putL a os xs).put o.dst v = putL (a.put o.dst v) os xs
  | [], _, _, _ => by simp [putL]
  | o' :: os, [], _, _ => by simp [putL]
  | o' :: os, x :: xs, a, h => by
    simp only [putL]
    have hne : ∀ d, o.dst = some d → o'.dst ≠ some d := fun d hd => by
      rw [hd] at h
      have := h
      simp only [List.all_cons, Bool.and_eq_true] at this
      simpa using this.1
    rw [putL_later os xs _ (by
      cases hd : o.dst with
      | none => rfl
      | some d => rw [hd] at h; simp only [List.all_cons, Bool.and_eq_true] at h; exact h.2)]
    rw [Act.put_comm a (x := o.dst) (y := o'.dst) v x hne]
theorem putL_set : ∀ (os : List Oper) (xs : List Value) (a : Act) (i : Nat) (o : Oper) (v : Value), dstsB os = true → xs.length = os.length → os[i]? = some o → (putL a os xs).put o.dst v = putL a os (xs.set i v)
  | [], _, _, _, _, _, _, _, h => by simp at h
  | o' :: os, [], _, _, _, _, _, h, _ => by simp at h
  | o' :: os, x :: xs, a, 0, o, v, hd, hl, ho => by
    simp at ho
    subst ho
    simp only [dstsB, Bool.and_eq_true] at hd
    simp only [putL, List.set_cons_zero]
    rw [putL_later os xs _ hd.1, put_same]
  | o' :: os, x :: xs, a, i + 1, o, v, hd, hl, ho => by
    simp only [dstsB, Bool.and_eq_true] at hd
    simp only [putL, List.set_cons_succ]
    exact putL_set os xs _ i o v hd.2 (by simpa using hl) (by simpa using ho)
/-- What stands there before. -/
def oldL (a : Act) (os : List Oper) : List Value := os.map fun o => match o.dst with | some d => a.tmps.getD d undef | none => undef
theorem putL_old (a : Act) : ∀ os : List Oper, putL a os (oldL a os) = a
  | [] => rfl
  | o :: os => by
    have e : a.put o.dst (match o.dst with | some d => a.tmps.getD d undef | none => undef) = a := by
      cases hd : o.dst with
      | none => rfl
      | some d => exact put_getD a d
    simp only [oldL, List.map_cons, putL]
    rw [e]
    exact putL_old a os
theorem oldL_len (a : Act) (os : List Oper) : (oldL a os).length = os.length := by simp [oldL]

/-- What an operation waits for stands ahead of it. -/
def forwardB (md : Region.Mode) (ops : Array Oper) : Bool := (List.range ops.size).all fun j => match ops[j]? with | some o => o.after.all fun e => !Region.binds md e || decide (e.on < j) | none => true
theorem forward_spec (h : forwardB md ops = true) {j : Nat} {o : Oper} (ho : ops[j]? = some o) {e : Edge} (he : e ∈ o.after) (hb : Region.binds md e = true) : e.on < j := by
  have h1 := List.all_eq_true.1 h j (List.mem_range.2 (Array.getElem?_eq_some_iff.1 ho).1)
  rw [ho] at h1
  obtain ⟨k, hk, rfl⟩ := Array.getElem_of_mem he
  have h3 := Array.all_eq_true.1 h1 k hk
  rw [hb] at h3
  simpa using h3

/-- What an operation does, by itself, in whatever frame: its value has the property, and what was known stays known. -/
def Rule (P : Program) (md : Region.Mode) (ops : Array Oper) (Q : Exit → Act → World → Prop) (S : World → Prop) (St : World → World → Prop) (Pr : Nat → Value → World → Prop) (Rel : Nat → Nat → Value → Value → Prop) (a0 : Act) (i : Nat) (o : Oper) : Prop :=
  ∀ (x : List Value) (w : World), x.length = ops.size → S w → (∀ j, waitsB md ops i j = true → Pr j (x.getD j undef) w) → ∀ K : Act → World → Prop, Shut (∀ v w', St w w' → S w' → Pr i v w' → (∀ j u, j ≠ i → Pr j u w → Rel i j v u ∧ Rel j i u v) → K ((putL a0 ops.toList x).put o.dst v) w') →
    if Region.wanted o (yielded ops (putL a0 ops.toList x).tmps) = true then Oper.wp P o (putL a0 ops.toList x) w K Q else K ((putL a0 ops.toList x).put o.dst undef) w

def allN (Z : Nat → Bool) (n : Nat) : Array Bool := (Array.range n).map fun i => !Z i
def cntN (l : Array Bool) : Nat := (l.toList.filter id).length
def zWaitB (md : Region.Mode) (ops : Array Oper) (Z E : Nat → Bool) : Bool := (List.range ops.size).all fun i => Z i || E i || (List.range ops.size).all fun z => !Z z || waitsT md ops 6 z i

theorem cnt_lt {l : List Bool} {i : Nat} (h : l[i]? = some false) : (l.filter id).length < l.length := by
  induction l generalizing i with
  | nil => simp at h
  | cons b l ih =>
    cases i with
    | zero =>
      simp at h
      subst h
      have := List.length_filter_le id l
      rw [List.filter_cons_of_neg (by simp), List.length_cons]
      omega
    | succ i =>
      have := ih (by simpa using h)
      cases b
      · rw [List.filter_cons_of_neg (by simp), List.length_cons]; omega
      · rw [List.filter_cons_of_pos (by simp), List.length_cons, List.length_cons]; omega
theorem cnt_set {l : List Bool} {i : Nat} (h : l[i]? = some false) : ((l.set i true).filter id).length = (l.filter id).length + 1 := by
  induction l generalizing i with
  | nil => simp at h
  | cons b l ih =>
    cases i with
    | zero => simp at h; subst h; simp
    | succ i =>
      have := ih (by simpa using h)
      cases b <;> simp [this]

theorem getD_self {x : List Value} {i : Nat} {v : Value} (h : i < x.length) : (x.set i v).getD i undef = v := by
  rw [List.getD_eq_getElem?_getD, List.getElem?_set_self h]; rfl
theorem getD_other {x : List Value} {i j : Nat} {v : Value} (h : i ≠ j) : (x.set i v).getD j undef = x.getD j undef := by
  rw [List.getD_eq_getElem?_getD, List.getElem?_set_ne h, ← List.getD_eq_getElem?_getD]
theorem rules_anyE {St : World → World → Prop} {Rel : Nat → Nat → Value → Value → Prop} {E : Nat → Bool} (hf : forwardB md ops = true) (hd : dstsB ops.toList = true) (hw : zWaitB md ops Z E = true)
    (hstab : ∀ j v w w', St w w' → S w' → Pr j v w → Pr j v w')
    (hrule : ∀ i o, ops[i]? = some o → Z i = false → Rule P md ops Q S St Pr Rel a0 i o)
    (hrest : ∀ x w L, x.length = ops.size → S w → L.size = ops.size → (∀ i, i < ops.size → Z i = false → E i = false → L.getD i false = true) → (∀ i, L.getD i false = true → Z i = false) → (∀ i, L.getD i false = true → Pr i (x.getD i undef) w) → (∀ i j, i ≠ j → L.getD i false = true → L.getD j false = true → Rel i j (x.getD i undef) (x.getD j undef)) → wpAny P md ops Q (ops.size - cntN L) L (putL a0 ops.toList x) w) :
    ∀ (fuel : Nat) (listed : Array Bool) (x : List Value) (w : World), listed.size = ops.size → fuel + cntN listed = ops.size → ClosedL md ops listed → (∀ i, listed.getD i false = true → Z i = false) → x.length = ops.size → S w →
      (∀ i, listed.getD i false = true → Pr i (x.getD i undef) w) → (∀ i j, i ≠ j → listed.getD i false = true → listed.getD j false = true → Rel i j (x.getD i undef) (x.getD j undef)) → wpAny P md ops Q fuel listed (putL a0 ops.toList x) w := by
  intro fuel
  induction fuel with
  | zero =>
    intro listed x w hsz hfu hcl hz hx hS hP hR
    have hall : ∀ i, i < ops.size → listed.getD i false = true := fun i hi => by
      cases hb : listed[i]? with
      | none => have := Array.getElem?_eq_none_iff.1 hb; omega
      | some b =>
        cases b with
        | true => simp [hb]
        | false =>
          have := cnt_lt (l := listed.toList) (i := i) (by simpa using hb)
          unfold cntN at hfu
          simp at this
          simp at hfu
          omega
    have h := hrest x w listed hx hS hsz (fun i hi _ _ => hall i hi) hz hP hR
    have : ops.size - cntN listed = 0 := by omega
    rw [this] at h
    exact h
  | succ fuel ih =>
    intro listed x w hsz hfu hcl hz hx hS hP hR
    by_cases hall : ∀ i, i < ops.size → Z i = false → E i = false → listed.getD i false = true
    · have h := hrest x w listed hx hS hsz hall hz hP hR
      have : ops.size - cntN listed = fuel + 1 := by omega
      rw [this] at h
      exact h
    · obtain ⟨i0, hi0, hz0, he0, hl0⟩ : ∃ i, i < ops.size ∧ Z i = false ∧ E i = false ∧ listed.getD i false = false := by
        simp only [Classical.not_forall] at hall
        obtain ⟨i, h1, h2, h3, h4⟩ := hall
        exact ⟨i, h1, h2, h3, by simpa using h4⟩
      have hne : ∀ i, i < ops.size → listed.getD i false = false → listed.getD i true = false := fun i hi h => by
        cases hb : listed[i]? with
        | none => have := Array.getElem?_eq_none_iff.1 hb; omega
        | some b => simp [hb] at h ⊢; exact h
      have hready : Region.ready md ops listed ≠ [] := by
        have hex : ∃ m, m < ops.size ∧ listed.getD m false = false ∧ ∀ k, k < m → listed.getD k false = true := by
          have : ∀ m, m < ops.size → listed.getD m false = false → ∃ m, m < ops.size ∧ listed.getD m false = false ∧ ∀ k, k < m → listed.getD k false = true := by
            intro m
            induction m using Nat.strongRecOn with
            | ind m ihm =>
              intro hm hl
              by_cases h : ∀ k, k < m → listed.getD k false = true
              · exact ⟨m, hm, hl, h⟩
              · simp only [Classical.not_forall] at h
                obtain ⟨k, h1, h2⟩ := h
                exact ihm k h1 (by omega) (by simpa using h2)
          exact this i0 hi0 hl0
        obtain ⟨m, hm, hlm, hk⟩ := hex
        have : m ∈ Region.ready md ops listed := mem_ready.2 ⟨hne m hm hlm, ops[m], by simp [hm], fun e he hb => hk _ (forward_spec hf (by simp [hm]) he hb)⟩
        intro h0
        rw [h0] at this
        cases this
      refine ⟨fun h0 => absurd h0 hready, fun i hi => ?_⟩
      obtain ⟨hiu, o, ho, hdeps⟩ := mem_ready.1 hi
      have hin := (Array.getElem?_eq_some_iff.1 ho).1
      have hzi : Z i = false := by
        cases hzz : Z i with
        | false => rfl
        | true =>
          have h1 := List.all_eq_true.1 hw i0 (List.mem_range.2 hi0)
          rw [hz0, he0] at h1
          have h2 := List.all_eq_true.1 (by simpa using h1 : (List.range ops.size).all (fun z => !Z z || waitsT md ops 6 z i0) = true) i (List.mem_range.2 hin)
          rw [hzz] at h2
          have h3 := listed_of_waitsT hcl 6 i i0 (fun o' ho' e he hb => by rw [ho] at ho'; cases ho'; exact hdeps e he hb) (by simpa using h2)
          rw [hl0] at h3
          cases h3
      refine wpOp_step ho (fun K hK => hrule i o ho hzi x w hx hS (fun j hj => ?_) K (fun v w' hst hS' hPv hRv => hK _ _ ?_))
      · obtain ⟨oz, hoz, ez, hez, hbz, rfl⟩ := waits_spec hj
        rw [ho] at hoz
        cases hoz
        exact hP _ (hdeps ez hez hbz)
      · rw [putL_set ops.toList x a0 i o v hd (by simpa using hx) (by simpa using ho)]
        have hlf : listed[i]? = some false := by
          cases hb : listed[i]? with
          | none => have := Array.getElem?_eq_none_iff.1 hb; omega
          | some b => simp [hb] at hiu; rw [hiu]
        refine ih (listed.setIfInBounds i true) (x.set i v) w' (by simpa using hsz) ?_ (closed_next hcl hi) ?_ (by simpa using hx) hS' ?_ ?_
        · unfold cntN at *
          rw [Array.toList_setIfInBounds, cnt_set (by simpa using hlf)]
          omega
        · intro j hj
          by_cases hij : i = j
          · subst hij; exact hzi
          · rw [getD_set_ne false hij] at hj
            exact hz j hj
        · intro j hj
          by_cases hij : i = j
          · subst hij
            rw [List.getD_eq_getElem?_getD, List.getElem?_set_self (by omega)]
            exact hPv
          · rw [getD_set_ne false hij] at hj
            rw [List.getD_eq_getElem?_getD, List.getElem?_set_ne hij, ← List.getD_eq_getElem?_getD]
            exact hstab j _ w w' hst hS' (hP j hj)
        · intro j k hjk hj hk
          by_cases hij : i = j
          · subst hij
            rw [getD_set_ne false hjk] at hk
            rw [getD_self (by omega), getD_other hjk]
            exact (hRv k _ (Ne.symm hjk) (hP k hk)).1
          · rw [getD_set_ne false hij] at hj
            by_cases hik : i = k
            · subst hik
              rw [getD_other hij, getD_self (by omega)]
              exact (hRv j _ hjk (hP j hj)).2
            · rw [getD_set_ne false hik] at hk
              rw [getD_other hij, getD_other hik]
              exact hR j k hjk hj hk

/-- The rules, one after the other. -/
def Rules (P : Program) (ops : Array Oper) (Q : Exit → Act → World → Prop) (S : World → Prop) (St : World → World → Prop) (Pr : Nat → Value → World → Prop) (Rel : Nat → Nat → Value → Value → Prop) (Z : Nat → Bool) (a0 : Act) : List Oper → Nat → Prop
  | [], _ => True
  | o :: os, i => (Z i = true ∨ Rule P .any ops Q S St Pr Rel a0 i o) ∧ Rules P ops Q S St Pr Rel Z a0 os (i + 1)
theorem rules_at {St : World → World → Prop} {Rel : Nat → Nat → Value → Value → Prop} : ∀ (os : List Oper) (k i : Nat) (o : Oper), Rules P ops Q S St Pr Rel Z a0 os k → os[i]? = some o → Z (k + i) = false → Rule P .any ops Q S St Pr Rel a0 (k + i) o
  | [], _, _, _, _, h, _ => by simp at h
  | o' :: os, k, 0, o, h, ho, hz => by
    simp at ho
    subst ho
    rcases h.1 with h1 | h1
    · rw [Nat.add_zero] at hz; rw [hz] at h1; cases h1
    · exact h1
  | o' :: os, k, i + 1, o, h, ho, hz => by
    have := rules_at os (k + 1) i o h.2 (by simpa using ho) (by rw [show k + 1 + i = k + (i + 1) by omega]; exact hz)
    rw [show k + 1 + i = k + (i + 1) by omega] at this
    exact this

/-- The values put into slots. -/
def putD (a : Act) : List (Option Tmp) → List Value → Act
  | d :: ds, v :: vs => putD (a.put d v) ds vs
  | _, _ => a
theorem putL_eq : ∀ (os : List Oper) (xs : List Value) (a : Act), putL a os xs = putD a (os.map (·.dst)) xs
  | [], _, _ => by simp [putL, putD]
  | o :: os, [], _ => by simp [putL, putD]
  | o :: os, x :: xs, a => by simp only [putL, putD, List.map_cons]; exact putL_eq os xs _

/-- What an operation does by itself, said without the region. -/
def RuleS (P : Program) (Q : Exit → Act → World → Prop) (S : World → Prop) (St : World → World → Prop) (Pr : Nat → Value → World → Prop) (Rel : Nat → Nat → Value → Value → Prop) (a0 : Act) (ds : List (Option Tmp)) (n i : Nat) (deps : List Nat) (o : Oper) : Prop :=
  ∀ (x : List Value) (w : World), x.length = n → S w → (∀ j, j ∈ deps → Pr j (x.getD j undef) w) → ∀ K : Act → World → Prop, Shut (∀ v w', St w w' → S w' → Pr i v w' → (∀ j u, j ≠ i → Pr j u w → Rel i j v u ∧ Rel j i u v) → K ((putD a0 ds x).put o.dst v) w') → Oper.wp P o (putD a0 ds x) w K Q

theorem rule_of {St : World → World → Prop} {Rel : Nat → Nat → Value → Value → Prop} {i n : Nat} {deps : List Nat} {o : Oper} {ds : List (Option Tmp)} (hg : o.guard = none) (hn : ops.size = n) (hds : ops.toList.map (·.dst) = ds) (hw : deps.all (waitsB md ops i) = true) (h : RuleS P Q S St Pr Rel a0 ds n i deps o) : Rule P md ops Q S St Pr Rel a0 i o := by
  intro x w hx hS hdep K hK
  have hwant : Region.wanted o (yielded ops (putL a0 ops.toList x).tmps) = true := by unfold Region.wanted; rw [hg]
  rw [if_pos hwant]
  rw [putL_eq, hds] at hK ⊢
  exact h x w (hx.trans hn) hS (fun j hj => hdep j (List.all_eq_true.1 hw j hj)) K hK

theorem rules_skip {St : World → World → Prop} {Rel : Nat → Nat → Value → Value → Prop} {o : Oper} {os : List Oper} {i : Nat} (h : Z i = true) (hr : Rules P ops Q S St Pr Rel Z a0 os (i + 1)) : Rules P ops Q S St Pr Rel Z a0 (o :: os) i := ⟨Or.inl h, hr⟩
theorem rules_cons {St : World → World → Prop} {Rel : Nat → Nat → Value → Value → Prop} {o : Oper} {os : List Oper} {i n : Nat} {ds : List (Option Tmp)} (hn : ops.size = n) (hds : ops.toList.map (·.dst) = ds) (deps : List Nat) (hg : o.guard = none) (hw : deps.all (waitsB .any ops i) = true)
    (h : RuleS P Q S St Pr Rel a0 ds n i deps o) (hr : Rules P ops Q S St Pr Rel Z a0 os (i + 1)) : Rules P ops Q S St Pr Rel Z a0 (o :: os) i := ⟨Or.inr (rule_of hg hn hds hw h), hr⟩
theorem wanted_val {o : Oper} {a : Act} {g : Nat} {want b : Bool} {d : Tmp} (hg : o.guard = some (g, want)) (hd : (ops[g]?).bind (·.dst) = some d) (hv : a.tmps[d]? = some (.bool b)) : Region.wanted o (yielded ops a.tmps) = (b == want) := by
  have hy : yielded ops a.tmps g = some b := by
    unfold yielded
    rw [hd, Option.bind_some, hv]
  unfold Region.wanted
  rw [hg]
  simp [hy]
theorem wanted_undef {o : Oper} {a : Act} {g : Nat} {want : Bool} {d : Tmp} (hg : o.guard = some (g, want)) (hd : (ops[g]?).bind (·.dst) = some d) (hv : a.tmps[d]? = some undef) : Region.wanted o (yielded ops a.tmps) = false := by
  have hy : yielded ops a.tmps g = none := by
    unfold yielded
    rw [hd, Option.bind_some, hv]
    rfl
  unfold Region.wanted
  rw [hg]
  simp [hy]

/-- A guarded operation that is carried out. -/
theorem rules_wanted {St : World → World → Prop} {Rel : Nat → Nat → Value → Value → Prop} {o : Oper} {os : List Oper} {i n : Nat} {ds : List (Option Tmp)} (hn : ops.size = n) (hds : ops.toList.map (·.dst) = ds) (deps : List Nat) (hw : deps.all (waitsB .any ops i) = true)
    (hwant : ∀ (x : List Value) (w : World), x.length = n → S w → (∀ j, j ∈ deps → Pr j (x.getD j undef) w) → Region.wanted o (yielded ops (putD a0 ds x).tmps) = true)
    (h : RuleS P Q S St Pr Rel a0 ds n i deps o) (hr : Rules P ops Q S St Pr Rel Z a0 os (i + 1)) : Rules P ops Q S St Pr Rel Z a0 (o :: os) i := by
  refine ⟨Or.inr ?_, hr⟩
  intro x w hx hS hdep K hK
  subst hn hds
  rw [putL_eq] at hK ⊢
  have hd : ∀ j, j ∈ deps → Pr j (x.getD j undef) w := fun j hj => hdep j (List.all_eq_true.1 hw j hj)
  rw [if_pos (hwant x w hx hS hd)]
  exact h x w hx hS hd K hK
/-- A guarded operation that is not carried out. -/
theorem rules_unwanted {St : World → World → Prop} {Rel : Nat → Nat → Value → Value → Prop} {o : Oper} {os : List Oper} {i n : Nat} {ds : List (Option Tmp)} (hn : ops.size = n) (hds : ops.toList.map (·.dst) = ds) (deps : List Nat) (hw : deps.all (waitsB .any ops i) = true)
    (hwant : ∀ (x : List Value) (w : World), x.length = n → S w → (∀ j, j ∈ deps → Pr j (x.getD j undef) w) → Region.wanted o (yielded ops (putD a0 ds x).tmps) = false)
    (h : ∀ w, S w → St w w ∧ Pr i undef w ∧ ∀ j u, j ≠ i → Pr j u w → Rel i j undef u ∧ Rel j i u undef) (hr : Rules P ops Q S St Pr Rel Z a0 os (i + 1)) : Rules P ops Q S St Pr Rel Z a0 (o :: os) i := by
  refine ⟨Or.inr ?_, hr⟩
  intro x w hx hS hdep K hK
  subst hn hds
  rw [putL_eq] at hK ⊢
  have hd : ∀ j, j ∈ deps → Pr j (x.getD j undef) w := fun j hj => hdep j (List.all_eq_true.1 hw j hj)
  have hf := hwant x w hx hS hd
  rw [if_neg (by rw [hf]; decide)]
  obtain ⟨h1, h2, h3⟩ := h w hS
  exact hK undef w h1 hS h2 h3
theorem rules_nil {St : World → World → Prop} {Rel : Nat → Nat → Value → Value → Prop} {i : Nat} : Rules P ops Q S St Pr Rel Z a0 [] i := trivial

theorem wp_region_rulesE (Z E : Nat → Bool) (S : World → Prop) (St : World → World → Prop) (Pr : Nat → Value → World → Prop) (Rel : Nat → Nat → Value → Value → Prop) {id : Nat} {w : World} (hm : P.follows .mixedOrders = true) (hf : forwardB .any ops = true) (hd : dstsB ops.toList = true) (hw : zWaitB .any ops Z E = true)
    (n : Nat) (hn : ops.size = n) (ds : List (Option Tmp)) (hds : ops.toList.map (·.dst) = ds)
    (hS : S w.drew) (hstab : ∀ j v w w', St w w' → S w' → Pr j v w → Pr j v w') (hrules : Rules P ops Q S St Pr Rel Z a0 ops.toList 0)
    (hrest : ∀ x w L, x.length = n → S w → L.size = n → (∀ i, i < n → Z i = false → E i = false → L.getD i false = true) → (∀ i, L.getD i false = true → Z i = false) → (∀ i, L.getD i false = true → Pr i (x.getD i undef) w) → (∀ i j, i ≠ j → L.getD i false = true → L.getD j false = true → Rel i j (x.getD i undef) (x.getD j undef)) → wpAny P .any ops Q (n - cntN L) L (putD a0 ds x) w) :
    (Code.region id ops true).wp P Q a0 w := by
  subst hn hds
  simp only [← putL_eq] at hrest
  refine wp_region_any hm ?_
  have hc0 : ∀ i, (Array.replicate ops.size false).getD i false = false := fun i => by
    by_cases h : i < ops.size <;> simp [h]
  have h := rules_anyE (md := .any) (P := P) (Q := Q) (a0 := a0) hf hd hw hstab (fun i o ho hz => by
      have := rules_at ops.toList 0 i o hrules (by simpa using ho) (by simpa using hz)
      simpa using this) hrest ops.size (Array.replicate ops.size false) (oldL a0 ops.toList) w.drew (by simp) (by simp [cntN])
      (fun j o _ hl => by rw [hc0] at hl; cases hl) (fun i hl => by rw [hc0] at hl; cases hl) (by rw [oldL_len]; simp) hS (fun i hl => by rw [hc0] at hl; cases hl) (fun i j _ hl => by rw [hc0] at hl; cases hl)
  rw [putL_old] at h
  exact h

theorem wp_region_rules (Z : Nat → Bool) (S : World → Prop) (St : World → World → Prop) (Pr : Nat → Value → World → Prop) {id : Nat} {w : World} (hm : P.follows .mixedOrders = true) (hf : forwardB .any ops = true) (hd : dstsB ops.toList = true) (hw : zWaitB .any ops Z (fun _ => false) = true)
    (n : Nat) (hn : ops.size = n) (ds : List (Option Tmp)) (hds : ops.toList.map (·.dst) = ds) (m : Nat) (L : Array Bool) (hmm : ops.size - cntN (allN Z ops.size) = m) (hL : allN Z ops.size = L)
    (hS : S w.drew) (hstab : ∀ j v w w', St w w' → S w' → Pr j v w → Pr j v w') (hrules : Rules P ops Q S St Pr (fun _ _ _ _ => True) Z a0 ops.toList 0)
    (hrest : ∀ x w, x.length = n → S w → (∀ i, i < n → Z i = false → Pr i (x.getD i undef) w) → wpAny P .any ops Q m L (putD a0 ds x) w) :
    (Code.region id ops true).wp P Q a0 w := by
  subst hmm hL
  refine wp_region_rulesE Z (fun _ => false) S St Pr (fun _ _ _ _ => True) hm hf hd hw n hn ds hds hS hstab hrules (fun x w L hx hS hsz hall hz hP _ => ?_)
  have he : L = allN Z ops.size := by
    apply Array.ext_getElem?
    intro i
    by_cases hi : i < n
    · cases hb : L[i]? with
      | none => have := Array.getElem?_eq_none_iff.1 hb; omega
      | some b =>
        cases hzi : Z i with
        | false => have := hall i hi hzi rfl; simp [hb] at this; simp [allN, hn, hi, hzi, this]
        | true =>
          cases b with
          | false => simp [allN, hn, hi, hzi]
          | true => have := hz i (by simp [hb]); rw [hzi] at this; cases this
    · rw [Array.getElem?_eq_none (by omega), Array.getElem?_eq_none (by simp [allN]; omega)]
  subst he
  rw [← hn]
  exact hrest x w hx hS (fun i hi hzi => hP i (hall i hi hzi rfl))

theorem len2 {l : List Value} (h : l.length = 2) : ∃ x0 x1, l = [x0, x1] := by
  match l, h with
  | [x0, x1], _ => exact ⟨_, _, rfl⟩
theorem len3 {l : List Value} (h : l.length = 3) : ∃ x0 x1 x2, l = [x0, x1, x2] := by
  match l, h with
  | [x0, x1, x2], _ => exact ⟨_, _, _, rfl⟩
theorem len4 {l : List Value} (h : l.length = 4) : ∃ x0 x1 x2 x3, l = [x0, x1, x2, x3] := by
  match l, h with
  | [x0, x1, x2, x3], _ => exact ⟨_, _, _, _, rfl⟩
theorem len5 {l : List Value} (h : l.length = 5) : ∃ x0 x1 x2 x3 x4, l = [x0, x1, x2, x3, x4] := by
  match l, h with
  | [x0, x1, x2, x3, x4], _ => exact ⟨_, _, _, _, _, rfl⟩
theorem len6 {l : List Value} (h : l.length = 6) : ∃ x0 x1 x2 x3 x4 x5, l = [x0, x1, x2, x3, x4, x5] := by
  match l, h with
  | [x0, x1, x2, x3, x4, x5], _ => exact ⟨_, _, _, _, _, _, rfl⟩
theorem len7 {l : List Value} (h : l.length = 7) : ∃ x0 x1 x2 x3 x4 x5 x6, l = [x0, x1, x2, x3, x4, x5, x6] := by
  match l, h with
  | [x0, x1, x2, x3, x4, x5, x6], _ => exact ⟨_, _, _, _, _, _, _, rfl⟩
theorem len8 {l : List Value} (h : l.length = 8) : ∃ x0 x1 x2 x3 x4 x5 x6 x7, l = [x0, x1, x2, x3, x4, x5, x6, x7] := by
  match l, h with
  | [x0, x1, x2, x3, x4, x5, x6, x7], _ => exact ⟨_, _, _, _, _, _, _, _, rfl⟩
theorem len9 {l : List Value} (h : l.length = 9) : ∃ x0 x1 x2 x3 x4 x5 x6 x7 x8, l = [x0, x1, x2, x3, x4, x5, x6, x7, x8] := by
  match l, h with
  | [x0, x1, x2, x3, x4, x5, x6, x7, x8], _ => exact ⟨_, _, _, _, _, _, _, _, _, rfl⟩
theorem len10 {l : List Value} (h : l.length = 10) : ∃ x0 x1 x2 x3 x4 x5 x6 x7 x8 x9, l = [x0, x1, x2, x3, x4, x5, x6, x7, x8, x9] := by
  match l, h with
  | [x0, x1, x2, x3, x4, x5, x6, x7, x8, x9], _ => exact ⟨_, _, _, _, _, _, _, _, _, _, rfl⟩
theorem len11 {l : List Value} (h : l.length = 11) : ∃ x0 x1 x2 x3 x4 x5 x6 x7 x8 x9 x10, l = [x0, x1, x2, x3, x4, x5, x6, x7, x8, x9, x10] := by
  match l, h with
  | [x0, x1, x2, x3, x4, x5, x6, x7, x8, x9, x10], _ => exact ⟨_, _, _, _, _, _, _, _, _, _, _, rfl⟩
theorem len12 {l : List Value} (h : l.length = 12) : ∃ x0 x1 x2 x3 x4 x5 x6 x7 x8 x9 x10 x11, l = [x0, x1, x2, x3, x4, x5, x6, x7, x8, x9, x10, x11] := by
  match l, h with
  | [x0, x1, x2, x3, x4, x5, x6, x7, x8, x9, x10, x11], _ => exact ⟨_, _, _, _, _, _, _, _, _, _, _, _, rfl⟩
theorem len13 {l : List Value} (h : l.length = 13) : ∃ x0 x1 x2 x3 x4 x5 x6 x7 x8 x9 x10 x11 x12, l = [x0, x1, x2, x3, x4, x5, x6, x7, x8, x9, x10, x11, x12] := by
  match l, h with
  | [x0, x1, x2, x3, x4, x5, x6, x7, x8, x9, x10, x11, x12], _ => exact ⟨_, _, _, _, _, _, _, _, _, _, _, _, _, rfl⟩
theorem len14 {l : List Value} (h : l.length = 14) : ∃ x0 x1 x2 x3 x4 x5 x6 x7 x8 x9 x10 x11 x12 x13, l = [x0, x1, x2, x3, x4, x5, x6, x7, x8, x9, x10, x11, x12, x13] := by
  match l, h with
  | [x0, x1, x2, x3, x4, x5, x6, x7, x8, x9, x10, x11, x12, x13], _ => exact ⟨_, _, _, _, _, _, _, _, _, _, _, _, _, _, rfl⟩
theorem len15 {l : List Value} (h : l.length = 15) : ∃ x0 x1 x2 x3 x4 x5 x6 x7 x8 x9 x10 x11 x12 x13 x14, l = [x0, x1, x2, x3, x4, x5, x6, x7, x8, x9, x10, x11, x12, x13, x14] := by
  match l, h with
  | [x0, x1, x2, x3, x4, x5, x6, x7, x8, x9, x10, x11, x12, x13, x14], _ => exact ⟨_, _, _, _, _, _, _, _, _, _, _, _, _, _, _, rfl⟩
theorem len16 {l : List Value} (h : l.length = 16) : ∃ x0 x1 x2 x3 x4 x5 x6 x7 x8 x9 x10 x11 x12 x13 x14 x15, l = [x0, x1, x2, x3, x4, x5, x6, x7, x8, x9, x10, x11, x12, x13, x14, x15] := by
  match l, h with
  | [x0, x1, x2, x3, x4, x5, x6, x7, x8, x9, x10, x11, x12, x13, x14, x15], _ => exact ⟨_, _, _, _, _, _, _, _, _, _, _, _, _, _, _, _, rfl⟩
theorem len17 {l : List Value} (h : l.length = 17) : ∃ x0 x1 x2 x3 x4 x5 x6 x7 x8 x9 x10 x11 x12 x13 x14 x15 x16, l = [x0, x1, x2, x3, x4, x5, x6, x7, x8, x9, x10, x11, x12, x13, x14, x15, x16] := by
  match l, h with
  | [x0, x1, x2, x3, x4, x5, x6, x7, x8, x9, x10, x11, x12, x13, x14, x15, x16], _ => exact ⟨_, _, _, _, _, _, _, _, _, _, _, _, _, _, _, _, _, rfl⟩
theorem len18 {l : List Value} (h : l.length = 18) : ∃ x0 x1 x2 x3 x4 x5 x6 x7 x8 x9 x10 x11 x12 x13 x14 x15 x16 x17, l = [x0, x1, x2, x3, x4, x5, x6, x7, x8, x9, x10, x11, x12, x13, x14, x15, x16, x17] := by
  match l, h with
  | [x0, x1, x2, x3, x4, x5, x6, x7, x8, x9, x10, x11, x12, x13, x14, x15, x16, x17], _ => exact ⟨_, _, _, _, _, _, _, _, _, _, _, _, _, _, _, _, _, _, rfl⟩
theorem len19 {l : List Value} (h : l.length = 19) : ∃ x0 x1 x2 x3 x4 x5 x6 x7 x8 x9 x10 x11 x12 x13 x14 x15 x16 x17 x18, l = [x0, x1, x2, x3, x4, x5, x6, x7, x8, x9, x10, x11, x12, x13, x14, x15, x16, x17, x18] := by
  match l, h with
  | [x0, x1, x2, x3, x4, x5, x6, x7, x8, x9, x10, x11, x12, x13, x14, x15, x16, x17, x18], _ => exact ⟨_, _, _, _, _, _, _, _, _, _, _, _, _, _, _, _, _, _, _, rfl⟩
theorem len20 {l : List Value} (h : l.length = 20) : ∃ x0 x1 x2 x3 x4 x5 x6 x7 x8 x9 x10 x11 x12 x13 x14 x15 x16 x17 x18 x19, l = [x0, x1, x2, x3, x4, x5, x6, x7, x8, x9, x10, x11, x12, x13, x14, x15, x16, x17, x18, x19] := by
  match l, h with
  | [x0, x1, x2, x3, x4, x5, x6, x7, x8, x9, x10, x11, x12, x13, x14, x15, x16, x17, x18, x19], _ => exact ⟨_, _, _, _, _, _, _, _, _, _, _, _, _, _, _, _, _, _, _, _, rfl⟩
theorem len21 {l : List Value} (h : l.length = 21) : ∃ x0 x1 x2 x3 x4 x5 x6 x7 x8 x9 x10 x11 x12 x13 x14 x15 x16 x17 x18 x19 x20, l = [x0, x1, x2, x3, x4, x5, x6, x7, x8, x9, x10, x11, x12, x13, x14, x15, x16, x17, x18, x19, x20] := by
  match l, h with
  | [x0, x1, x2, x3, x4, x5, x6, x7, x8, x9, x10, x11, x12, x13, x14, x15, x16, x17, x18, x19, x20], _ => exact ⟨_, _, _, _, _, _, _, _, _, _, _, _, _, _, _, _, _, _, _, _, _, rfl⟩
theorem len22 {l : List Value} (h : l.length = 22) : ∃ x0 x1 x2 x3 x4 x5 x6 x7 x8 x9 x10 x11 x12 x13 x14 x15 x16 x17 x18 x19 x20 x21, l = [x0, x1, x2, x3, x4, x5, x6, x7, x8, x9, x10, x11, x12, x13, x14, x15, x16, x17, x18, x19, x20, x21] := by
  match l, h with
  | [x0, x1, x2, x3, x4, x5, x6, x7, x8, x9, x10, x11, x12, x13, x14, x15, x16, x17, x18, x19, x20, x21], _ => exact ⟨_, _, _, _, _, _, _, _, _, _, _, _, _, _, _, _, _, _, _, _, _, _, rfl⟩
theorem len23 {l : List Value} (h : l.length = 23) : ∃ x0 x1 x2 x3 x4 x5 x6 x7 x8 x9 x10 x11 x12 x13 x14 x15 x16 x17 x18 x19 x20 x21 x22, l = [x0, x1, x2, x3, x4, x5, x6, x7, x8, x9, x10, x11, x12, x13, x14, x15, x16, x17, x18, x19, x20, x21, x22] := by
  match l, h with
  | [x0, x1, x2, x3, x4, x5, x6, x7, x8, x9, x10, x11, x12, x13, x14, x15, x16, x17, x18, x19, x20, x21, x22], _ => exact ⟨_, _, _, _, _, _, _, _, _, _, _, _, _, _, _, _, _, _, _, _, _, _, _, rfl⟩
theorem len24 {l : List Value} (h : l.length = 24) : ∃ x0 x1 x2 x3 x4 x5 x6 x7 x8 x9 x10 x11 x12 x13 x14 x15 x16 x17 x18 x19 x20 x21 x22 x23, l = [x0, x1, x2, x3, x4, x5, x6, x7, x8, x9, x10, x11, x12, x13, x14, x15, x16, x17, x18, x19, x20, x21, x22, x23] := by
  match l, h with
  | [x0, x1, x2, x3, x4, x5, x6, x7, x8, x9, x10, x11, x12, x13, x14, x15, x16, x17, x18, x19, x20, x21, x22, x23], _ => exact ⟨_, _, _, _, _, _, _, _, _, _, _, _, _, _, _, _, _, _, _, _, _, _, _, _, rfl⟩
theorem len25 {l : List Value} (h : l.length = 25) : ∃ x0 x1 x2 x3 x4 x5 x6 x7 x8 x9 x10 x11 x12 x13 x14 x15 x16 x17 x18 x19 x20 x21 x22 x23 x24, l = [x0, x1, x2, x3, x4, x5, x6, x7, x8, x9, x10, x11, x12, x13, x14, x15, x16, x17, x18, x19, x20, x21, x22, x23, x24] := by
  match l, h with
  | [x0, x1, x2, x3, x4, x5, x6, x7, x8, x9, x10, x11, x12, x13, x14, x15, x16, x17, x18, x19, x20, x21, x22, x23, x24], _ => exact ⟨_, _, _, _, _, _, _, _, _, _, _, _, _, _, _, _, _, _, _, _, _, _, _, _, _, rfl⟩
theorem len26 {l : List Value} (h : l.length = 26) : ∃ x0 x1 x2 x3 x4 x5 x6 x7 x8 x9 x10 x11 x12 x13 x14 x15 x16 x17 x18 x19 x20 x21 x22 x23 x24 x25, l = [x0, x1, x2, x3, x4, x5, x6, x7, x8, x9, x10, x11, x12, x13, x14, x15, x16, x17, x18, x19, x20, x21, x22, x23, x24, x25] := by
  match l, h with
  | [x0, x1, x2, x3, x4, x5, x6, x7, x8, x9, x10, x11, x12, x13, x14, x15, x16, x17, x18, x19, x20, x21, x22, x23, x24, x25], _ => exact ⟨_, _, _, _, _, _, _, _, _, _, _, _, _, _, _, _, _, _, _, _, _, _, _, _, _, _, rfl⟩
theorem len27 {l : List Value} (h : l.length = 27) : ∃ x0 x1 x2 x3 x4 x5 x6 x7 x8 x9 x10 x11 x12 x13 x14 x15 x16 x17 x18 x19 x20 x21 x22 x23 x24 x25 x26, l = [x0, x1, x2, x3, x4, x5, x6, x7, x8, x9, x10, x11, x12, x13, x14, x15, x16, x17, x18, x19, x20, x21, x22, x23, x24, x25, x26] := by
  match l, h with
  | [x0, x1, x2, x3, x4, x5, x6, x7, x8, x9, x10, x11, x12, x13, x14, x15, x16, x17, x18, x19, x20, x21, x22, x23, x24, x25, x26], _ => exact ⟨_, _, _, _, _, _, _, _, _, _, _, _, _, _, _, _, _, _, _, _, _, _, _, _, _, _, _, rfl⟩
theorem len28 {l : List Value} (h : l.length = 28) : ∃ x0 x1 x2 x3 x4 x5 x6 x7 x8 x9 x10 x11 x12 x13 x14 x15 x16 x17 x18 x19 x20 x21 x22 x23 x24 x25 x26 x27, l = [x0, x1, x2, x3, x4, x5, x6, x7, x8, x9, x10, x11, x12, x13, x14, x15, x16, x17, x18, x19, x20, x21, x22, x23, x24, x25, x26, x27] := by
  match l, h with
  | [x0, x1, x2, x3, x4, x5, x6, x7, x8, x9, x10, x11, x12, x13, x14, x15, x16, x17, x18, x19, x20, x21, x22, x23, x24, x25, x26, x27], _ => exact ⟨_, _, _, _, _, _, _, _, _, _, _, _, _, _, _, _, _, _, _, _, _, _, _, _, _, _, _, _, rfl⟩
theorem len29 {l : List Value} (h : l.length = 29) : ∃ x0 x1 x2 x3 x4 x5 x6 x7 x8 x9 x10 x11 x12 x13 x14 x15 x16 x17 x18 x19 x20 x21 x22 x23 x24 x25 x26 x27 x28, l = [x0, x1, x2, x3, x4, x5, x6, x7, x8, x9, x10, x11, x12, x13, x14, x15, x16, x17, x18, x19, x20, x21, x22, x23, x24, x25, x26, x27, x28] := by
  match l, h with
  | [x0, x1, x2, x3, x4, x5, x6, x7, x8, x9, x10, x11, x12, x13, x14, x15, x16, x17, x18, x19, x20, x21, x22, x23, x24, x25, x26, x27, x28], _ => exact ⟨_, _, _, _, _, _, _, _, _, _, _, _, _, _, _, _, _, _, _, _, _, _, _, _, _, _, _, _, _, rfl⟩
theorem len30 {l : List Value} (h : l.length = 30) : ∃ x0 x1 x2 x3 x4 x5 x6 x7 x8 x9 x10 x11 x12 x13 x14 x15 x16 x17 x18 x19 x20 x21 x22 x23 x24 x25 x26 x27 x28 x29, l = [x0, x1, x2, x3, x4, x5, x6, x7, x8, x9, x10, x11, x12, x13, x14, x15, x16, x17, x18, x19, x20, x21, x22, x23, x24, x25, x26, x27, x28, x29] := by
  match l, h with
  | [x0, x1, x2, x3, x4, x5, x6, x7, x8, x9, x10, x11, x12, x13, x14, x15, x16, x17, x18, x19, x20, x21, x22, x23, x24, x25, x26, x27, x28, x29], _ => exact ⟨_, _, _, _, _, _, _, _, _, _, _, _, _, _, _, _, _, _, _, _, _, _, _, _, _, _, _, _, _, _, rfl⟩
theorem len31 {l : List Value} (h : l.length = 31) : ∃ x0 x1 x2 x3 x4 x5 x6 x7 x8 x9 x10 x11 x12 x13 x14 x15 x16 x17 x18 x19 x20 x21 x22 x23 x24 x25 x26 x27 x28 x29 x30, l = [x0, x1, x2, x3, x4, x5, x6, x7, x8, x9, x10, x11, x12, x13, x14, x15, x16, x17, x18, x19, x20, x21, x22, x23, x24, x25, x26, x27, x28, x29, x30] := by
  match l, h with
  | [x0, x1, x2, x3, x4, x5, x6, x7, x8, x9, x10, x11, x12, x13, x14, x15, x16, x17, x18, x19, x20, x21, x22, x23, x24, x25, x26, x27, x28, x29, x30], _ => exact ⟨_, _, _, _, _, _, _, _, _, _, _, _, _, _, _, _, _, _, _, _, _, _, _, _, _, _, _, _, _, _, _, rfl⟩
theorem len32 {l : List Value} (h : l.length = 32) : ∃ x0 x1 x2 x3 x4 x5 x6 x7 x8 x9 x10 x11 x12 x13 x14 x15 x16 x17 x18 x19 x20 x21 x22 x23 x24 x25 x26 x27 x28 x29 x30 x31, l = [x0, x1, x2, x3, x4, x5, x6, x7, x8, x9, x10, x11, x12, x13, x14, x15, x16, x17, x18, x19, x20, x21, x22, x23, x24, x25, x26, x27, x28, x29, x30, x31] := by
  match l, h with
  | [x0, x1, x2, x3, x4, x5, x6, x7, x8, x9, x10, x11, x12, x13, x14, x15, x16, x17, x18, x19, x20, x21, x22, x23, x24, x25, x26, x27, x28, x29, x30, x31], _ => exact ⟨_, _, _, _, _, _, _, _, _, _, _, _, _, _, _, _, _, _, _, _, _, _, _, _, _, _, _, _, _, _, _, _, rfl⟩
/-- Of those that are left one alone may come up. -/
theorem rest_loud {i : Nat} {o : Oper} {fuel : Nat} {listed : Array Bool} {a : Act} {w : World} (hr : Region.ready md ops listed = [i]) (ho : ops[i]? = some o)
    (h : ∀ K' : Act → World → Prop, Shut (∀ a w, wpAny P md ops Q fuel (listed.setIfInBounds i true) a w → K' a w) → if Region.wanted o (yielded ops a.tmps) = true then Oper.wp P o a w K' Q else K' (a.put o.dst undef) w) :
    wpAny P md ops Q (fuel + 1) listed a w :=
  ⟨fun h0 => (by rw [hr] at h0; cases h0), fun j hj => by
    rw [hr, List.mem_singleton] at hj
    subst hj
    exact wpOp_step ho h⟩
theorem arr4 {L : Array Bool} (h : L.size = 4) : ∃ l0 l1 l2 l3, L = #[l0, l1, l2, l3] := by
  obtain ⟨L⟩ := L
  match L, h with
  | [l0, l1, l2, l3], _ => exact ⟨_, _, _, _, rfl⟩
theorem arr5 {L : Array Bool} (h : L.size = 5) : ∃ l0 l1 l2 l3 l4, L = #[l0, l1, l2, l3, l4] := by
  obtain ⟨L⟩ := L
  match L, h with
  | [l0, l1, l2, l3, l4], _ => exact ⟨_, _, _, _, _, rfl⟩
theorem arr6 {L : Array Bool} (h : L.size = 6) : ∃ l0 l1 l2 l3 l4 l5, L = #[l0, l1, l2, l3, l4, l5] := by
  obtain ⟨L⟩ := L
  match L, h with
  | [l0, l1, l2, l3, l4, l5], _ => exact ⟨_, _, _, _, _, _, rfl⟩
theorem arr7 {L : Array Bool} (h : L.size = 7) : ∃ l0 l1 l2 l3 l4 l5 l6, L = #[l0, l1, l2, l3, l4, l5, l6] := by
  obtain ⟨L⟩ := L
  match L, h with
  | [l0, l1, l2, l3, l4, l5, l6], _ => exact ⟨_, _, _, _, _, _, _, rfl⟩
theorem arr8 {L : Array Bool} (h : L.size = 8) : ∃ l0 l1 l2 l3 l4 l5 l6 l7, L = #[l0, l1, l2, l3, l4, l5, l6, l7] := by
  obtain ⟨L⟩ := L
  match L, h with
  | [l0, l1, l2, l3, l4, l5, l6, l7], _ => exact ⟨_, _, _, _, _, _, _, _, rfl⟩
theorem arr9 {L : Array Bool} (h : L.size = 9) : ∃ l0 l1 l2 l3 l4 l5 l6 l7 l8, L = #[l0, l1, l2, l3, l4, l5, l6, l7, l8] := by
  obtain ⟨L⟩ := L
  match L, h with
  | [l0, l1, l2, l3, l4, l5, l6, l7, l8], _ => exact ⟨_, _, _, _, _, _, _, _, _, rfl⟩
theorem arr10 {L : Array Bool} (h : L.size = 10) : ∃ l0 l1 l2 l3 l4 l5 l6 l7 l8 l9, L = #[l0, l1, l2, l3, l4, l5, l6, l7, l8, l9] := by
  obtain ⟨L⟩ := L
  match L, h with
  | [l0, l1, l2, l3, l4, l5, l6, l7, l8, l9], _ => exact ⟨_, _, _, _, _, _, _, _, _, _, rfl⟩
theorem arr11 {L : Array Bool} (h : L.size = 11) : ∃ l0 l1 l2 l3 l4 l5 l6 l7 l8 l9 l10, L = #[l0, l1, l2, l3, l4, l5, l6, l7, l8, l9, l10] := by
  obtain ⟨L⟩ := L
  match L, h with
  | [l0, l1, l2, l3, l4, l5, l6, l7, l8, l9, l10], _ => exact ⟨_, _, _, _, _, _, _, _, _, _, _, rfl⟩
theorem arr12 {L : Array Bool} (h : L.size = 12) : ∃ l0 l1 l2 l3 l4 l5 l6 l7 l8 l9 l10 l11, L = #[l0, l1, l2, l3, l4, l5, l6, l7, l8, l9, l10, l11] := by
  obtain ⟨L⟩ := L
  match L, h with
  | [l0, l1, l2, l3, l4, l5, l6, l7, l8, l9, l10, l11], _ => exact ⟨_, _, _, _, _, _, _, _, _, _, _, _, rfl⟩
theorem arr13 {L : Array Bool} (h : L.size = 13) : ∃ l0 l1 l2 l3 l4 l5 l6 l7 l8 l9 l10 l11 l12, L = #[l0, l1, l2, l3, l4, l5, l6, l7, l8, l9, l10, l11, l12] := by
  obtain ⟨L⟩ := L
  match L, h with
  | [l0, l1, l2, l3, l4, l5, l6, l7, l8, l9, l10, l11, l12], _ => exact ⟨_, _, _, _, _, _, _, _, _, _, _, _, _, rfl⟩
theorem arr14 {L : Array Bool} (h : L.size = 14) : ∃ l0 l1 l2 l3 l4 l5 l6 l7 l8 l9 l10 l11 l12 l13, L = #[l0, l1, l2, l3, l4, l5, l6, l7, l8, l9, l10, l11, l12, l13] := by
  obtain ⟨L⟩ := L
  match L, h with
  | [l0, l1, l2, l3, l4, l5, l6, l7, l8, l9, l10, l11, l12, l13], _ => exact ⟨_, _, _, _, _, _, _, _, _, _, _, _, _, _, rfl⟩
theorem arr15 {L : Array Bool} (h : L.size = 15) : ∃ l0 l1 l2 l3 l4 l5 l6 l7 l8 l9 l10 l11 l12 l13 l14, L = #[l0, l1, l2, l3, l4, l5, l6, l7, l8, l9, l10, l11, l12, l13, l14] := by
  obtain ⟨L⟩ := L
  match L, h with
  | [l0, l1, l2, l3, l4, l5, l6, l7, l8, l9, l10, l11, l12, l13, l14], _ => exact ⟨_, _, _, _, _, _, _, _, _, _, _, _, _, _, _, rfl⟩
theorem arr16 {L : Array Bool} (h : L.size = 16) : ∃ l0 l1 l2 l3 l4 l5 l6 l7 l8 l9 l10 l11 l12 l13 l14 l15, L = #[l0, l1, l2, l3, l4, l5, l6, l7, l8, l9, l10, l11, l12, l13, l14, l15] := by
  obtain ⟨L⟩ := L
  match L, h with
  | [l0, l1, l2, l3, l4, l5, l6, l7, l8, l9, l10, l11, l12, l13, l14, l15], _ => exact ⟨_, _, _, _, _, _, _, _, _, _, _, _, _, _, _, _, rfl⟩
theorem arr17 {L : Array Bool} (h : L.size = 17) : ∃ l0 l1 l2 l3 l4 l5 l6 l7 l8 l9 l10 l11 l12 l13 l14 l15 l16, L = #[l0, l1, l2, l3, l4, l5, l6, l7, l8, l9, l10, l11, l12, l13, l14, l15, l16] := by
  obtain ⟨L⟩ := L
  match L, h with
  | [l0, l1, l2, l3, l4, l5, l6, l7, l8, l9, l10, l11, l12, l13, l14, l15, l16], _ => exact ⟨_, _, _, _, _, _, _, _, _, _, _, _, _, _, _, _, _, rfl⟩
theorem arr18 {L : Array Bool} (h : L.size = 18) : ∃ l0 l1 l2 l3 l4 l5 l6 l7 l8 l9 l10 l11 l12 l13 l14 l15 l16 l17, L = #[l0, l1, l2, l3, l4, l5, l6, l7, l8, l9, l10, l11, l12, l13, l14, l15, l16, l17] := by
  obtain ⟨L⟩ := L
  match L, h with
  | [l0, l1, l2, l3, l4, l5, l6, l7, l8, l9, l10, l11, l12, l13, l14, l15, l16, l17], _ => exact ⟨_, _, _, _, _, _, _, _, _, _, _, _, _, _, _, _, _, _, rfl⟩
theorem arr19 {L : Array Bool} (h : L.size = 19) : ∃ l0 l1 l2 l3 l4 l5 l6 l7 l8 l9 l10 l11 l12 l13 l14 l15 l16 l17 l18, L = #[l0, l1, l2, l3, l4, l5, l6, l7, l8, l9, l10, l11, l12, l13, l14, l15, l16, l17, l18] := by
  obtain ⟨L⟩ := L
  match L, h with
  | [l0, l1, l2, l3, l4, l5, l6, l7, l8, l9, l10, l11, l12, l13, l14, l15, l16, l17, l18], _ => exact ⟨_, _, _, _, _, _, _, _, _, _, _, _, _, _, _, _, _, _, _, rfl⟩
theorem arr20 {L : Array Bool} (h : L.size = 20) : ∃ l0 l1 l2 l3 l4 l5 l6 l7 l8 l9 l10 l11 l12 l13 l14 l15 l16 l17 l18 l19, L = #[l0, l1, l2, l3, l4, l5, l6, l7, l8, l9, l10, l11, l12, l13, l14, l15, l16, l17, l18, l19] := by
  obtain ⟨L⟩ := L
  match L, h with
  | [l0, l1, l2, l3, l4, l5, l6, l7, l8, l9, l10, l11, l12, l13, l14, l15, l16, l17, l18, l19], _ => exact ⟨_, _, _, _, _, _, _, _, _, _, _, _, _, _, _, _, _, _, _, _, rfl⟩
/-- Of those that are left two may come up. -/
theorem rest_two {i j : Nat} {o o2 : Oper} {fuel : Nat} {listed : Array Bool} {a : Act} {w : World} (hr : Region.ready md ops listed = [i, j]) (ho : ops[i]? = some o) (ho2 : ops[j]? = some o2)
    (h : ∀ K' : Act → World → Prop, Shut (∀ a w, wpAny P md ops Q fuel (listed.setIfInBounds i true) a w → K' a w) → if Region.wanted o (yielded ops a.tmps) = true then Oper.wp P o a w K' Q else K' (a.put o.dst undef) w)
    (h2 : ∀ K' : Act → World → Prop, Shut (∀ a w, wpAny P md ops Q fuel (listed.setIfInBounds j true) a w → K' a w) → if Region.wanted o2 (yielded ops a.tmps) = true then Oper.wp P o2 a w K' Q else K' (a.put o2.dst undef) w) :
    wpAny P md ops Q (fuel + 1) listed a w :=
  ⟨fun h0 => (by rw [h0] at hr; cases hr), fun k hk => by
    rw [hr] at hk
    rcases List.mem_cons.1 hk with rfl | hk
    · exact wpOp_step ho h
    · rw [List.mem_singleton] at hk
      subst hk
      exact wpOp_step ho2 h2⟩
theorem rest_done {listed : Array Bool} {a : Act} {w : World} (hr : Region.ready md ops listed = []) (h : Q .normal a w) : ∀ fuel, wpAny P md ops Q fuel listed a w
  | 0 => ⟨hr, h⟩
  | _ + 1 => ⟨fun _ => h, by rw [hr]; simp⟩

end
end Go.Proofs.Ytmkpidipoadnbaa
