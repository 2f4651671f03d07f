/- cover, in plain Lean: who bears a loss. -/
import Derived.Test.YtmkpidipoadnbaaW36
namespace Go.Proofs.Ytmkpidipoadnbaa
open Go Go.RowKit Go.Sort

/-- A house of whose numbers losses can be taken. -/
structure CovOK (h : Hs) : Prop where
  len : ∀ a ∈ h.ac, a.pos.length = 12
  few : h.ac.length ≤ 20
  pr : h.prices.length = 12
  cash : ∀ a ∈ h.ac, -4611686018427387904 ≤ valC a ∧ valC a ≤ 4611686018427387904
  fund : ∀ a ∈ h.ac, -4611686018427387904 ≤ valF a ∧ valF a ≤ 4611686018427387904
  cap : -4611686018427387904 ≤ h.capital ∧ h.capital ≤ 4611686018427387904

def fundI (h : Hs) (i : Nat) : Int := (h.ac[i]?.map valF).getD 0
/-- What the source number k gives. -/
def coverT (h : Hs) (i : Nat) (A : Int) : Nat → Int
  | 0 => (oneF A (fundI h i)).sum
  | 1 => (oneF A h.capital).sum
  | 2 => (potF h true valF A).sum
  | 3 => (potF h true valC A).sum
  | _ => A
/-- The house behind that. -/
def coverN (h : Hs) (i : Nat) (A : Int) : Nat → Hs
  | 0 => ownH h i (fundI h i) A
  | 1 => capH h A
  | 2 => drawH h true valF updF A
  | 3 => drawH h true valC updC A
  | _ => { h with hole := h.hole + A }
structure Cv where
  h : Hs
  left : Int
  nums : List Int
def coverS (h : Hs) (i : Nat) (L : Int) : Nat → Cv
  | 0 => ⟨h, L, [0, 0, 0, 0, 0]⟩
  | k + 1 => ⟨coverN (coverS h i L k).h i (coverS h i L k).left k, (coverS h i L k).left - coverT (coverS h i L k).h i (coverS h i L k).left k, (coverS h i L k).nums.set k (coverT (coverS h i L k).h i (coverS h i L k).left k)⟩
/-- A member's cash made at least 0. -/
def upA (h : Hs) (i : Nat) : Hs := { h with ac := match h.ac[i]? with | some a => h.ac.set i (updC a (max a.cash 0)) | none => h.ac }
def cashI (h : Hs) (i : Nat) : Int := (h.ac[i]?.map valC).getD 0
def lackI (h : Hs) (i : Nat) : Int := max 0 (-(cashI h i))
/-- What cover does. -/
def coverR (h : Hs) (i : Nat) : Cv := coverS (upA h i) i (lackI h i) 5

theorem sizes_pos (l : List Int) : ∀ x ∈ sizeL l, 0 ≤ x := fun x hx => by
  obtain ⟨v, _, rfl⟩ := List.mem_map.1 hx
  omega
theorem shareU_sizes {A : Int} (hA : 0 ≤ A) (l : List Int) : 0 ≤ (shareU A (sizeL l)).sum ∧ (shareU A (sizeL l)).sum ≤ A := by
  rw [shareU_sum hA (sizes_pos l)]
  have := sum_nonneg (sizes_pos l)
  omega
theorem coverT_bd {h : Hs} {i : Nat} {A : Int} (hA : 0 ≤ A) (k : Nat) : 0 ≤ coverT h i A k ∧ coverT h i A k ≤ A := by
  match k with
  | 0 => exact shareU_sizes hA _
  | 1 => exact shareU_sizes hA _
  | 2 => exact shareU_sizes hA _
  | 3 => exact shareU_sizes hA _
  | k + 4 => exact ⟨hA, Int.le_refl _⟩
theorem one_ex (A v : Int) : ∃ f, oneF A v = [f] := by
  have hl : (shareU A (sizeL [v])).length = 1 := shareU_len _ _
  match hz : shareU A (sizeL [v]), hl with
  | [f], _ => exact ⟨f, hz⟩
theorem one_near {A v B : Int} (hA : 0 ≤ A) (hv : -B ≤ v ∧ v ≤ B) {f : Int} (e : oneF A v = [f]) : -B ≤ nearV v f ∧ nearV v f ≤ B := by
  have := near_bd (vs := [v]) (B := B) hA (fun x hx => by simp at hx; subst hx; exact hv) (nearV v f) (by
    have e2 : shareU A (sizeL [v]) = [f] := e
    rw [e2]
    simp [nearL])
  exact this
theorem fundI_bd {h : Hs} {B : Int} (hB : 0 ≤ B) (hb : ∀ a ∈ h.ac, -B ≤ valF a ∧ valF a ≤ B) (i : Nat) : -B ≤ fundI h i ∧ fundI h i ≤ B := by
  unfold fundI
  cases e : h.ac[i]? with
  | none => simp; omega
  | some a => exact hb a (List.mem_of_getElem? e)
/-- What stays true of every account as funds or cash come nearer to 0. -/
theorem coverN_acs {P : Ac → Prop} {B : Int} (hB : 0 ≤ B) {h : Hs} {i : Nat} {A : Int} (hA : 0 ≤ A) (hf : ∀ a ∈ h.ac, -B ≤ valF a ∧ valF a ≤ B) (hc : ∀ a ∈ h.ac, -B ≤ valC a ∧ valC a ≤ B)
    (h1 : ∀ a x, P a → -B ≤ x ∧ x ≤ B → P (updF a x)) (h2 : ∀ a x, P a → -B ≤ x ∧ x ≤ B → P (updC a x)) (hp : ∀ a ∈ h.ac, P a) (k : Nat) : ∀ a ∈ (coverN h i A k).ac, P a := by
  match k with
  | 0 =>
    refine putAcs_all (Q := fun x => -B ≤ x ∧ x ≤ B) h1 _ _ hp (fun y hy => ?_)
    exact near_bd hA (fun x hx => by simp at hx; subst hx; exact fundI_bd hB hf i) y.2 (List.of_mem_zip hy).2
  | 1 => exact hp
  | 2 => exact putAcs_all (Q := fun x => -B ≤ x ∧ x ≤ B) h1 _ _ hp (fun y hy => near_bd hA (potV_bd hB hf _) y.2 (List.of_mem_zip hy).2)
  | 3 => exact putAcs_all (Q := fun x => -B ≤ x ∧ x ≤ B) h2 _ _ hp (fun y hy => near_bd hA (potV_bd hB hc _) y.2 (List.of_mem_zip hy).2)
  | k + 4 => exact hp
theorem coverN_len (h : Hs) (i : Nat) (A : Int) (k : Nat) : (coverN h i A k).ac.length = h.ac.length := by
  match k with
  | 0 => exact putAcs_len _ _ _
  | 1 => rfl
  | 2 => exact putAcs_len _ _ _
  | 3 => exact putAcs_len _ _ _
  | k + 4 => rfl
theorem coverN_rest (h : Hs) (i : Nat) (A : Int) (k : Nat) : (coverN h i A k).months = h.months ∧ (coverN h i A k).prices = h.prices ∧ (coverN h i A k).moves = h.moves ∧ (coverN h i A k).rate = h.rate ∧ (coverN h i A k).ks = h.ks := by
  match k with
  | 0 => exact ⟨rfl, rfl, rfl, rfl, rfl⟩
  | 1 => exact ⟨rfl, rfl, rfl, rfl, rfl⟩
  | 2 => exact ⟨rfl, rfl, rfl, rfl, rfl⟩
  | 3 => exact ⟨rfl, rfl, rfl, rfl, rfl⟩
  | k + 4 => exact ⟨rfl, rfl, rfl, rfl, rfl⟩
theorem coverN_hole (h : Hs) (i : Nat) (A : Int) (k : Nat) (hk : k < 4) : (coverN h i A k).hole = h.hole := by
  match k, hk with
  | 0, _ => rfl
  | 1, _ => rfl
  | 2, _ => rfl
  | 3, _ => rfl
theorem coverN_cap {h : Hs} {i : Nat} {A B : Int} (hA : 0 ≤ A) (hc : -B ≤ h.capital ∧ h.capital ≤ B) (k : Nat) : -B ≤ (coverN h i A k).capital ∧ (coverN h i A k).capital ≤ B := by
  match k with
  | 0 => exact hc
  | 1 =>
    obtain ⟨f, hf⟩ := one_ex A h.capital
    have := one_near hA hc hf
    show -B ≤ nearV h.capital ((oneF A h.capital).getD 0 0) ∧ nearV h.capital ((oneF A h.capital).getD 0 0) ≤ B
    rw [hf]
    exact this
  | 2 => exact hc
  | 3 => exact hc
  | k + 4 => exact hc
theorem CovOK.next {h : Hs} (ok : CovOK h) {i : Nat} {A : Int} (hA : 0 ≤ A) (k : Nat) : CovOK (coverN h i A k) := by
  have key := coverN_acs (P := fun a => a.pos.length = 12 ∧ (-4611686018427387904 ≤ valC a ∧ valC a ≤ 4611686018427387904) ∧ (-4611686018427387904 ≤ valF a ∧ valF a ≤ 4611686018427387904)) (B := 4611686018427387904) (by omega) (i := i) hA ok.fund ok.cash (fun a x h hx => ⟨h.1, h.2.1, hx⟩) (fun a x h hx => ⟨h.1, hx, h.2.2⟩) (fun a ha => ⟨ok.len a ha, ok.cash a ha, ok.fund a ha⟩) k
  refine ⟨fun a ha => (key a ha).1, by rw [coverN_len]; exact ok.few, by rw [(coverN_rest h i A k).2.1]; exact ok.pr, fun a ha => (key a ha).2.1, fun a ha => (key a ha).2.2, coverN_cap hA ok.cap k⟩
structure CvOK (h : Hs) (L : Int) (s : Cv) (k : Nat) : Prop where
  ok : CovOK s.h
  l0 : 0 ≤ s.left
  l1 : s.left ≤ L
  num : s.nums.length = 5
  acs : s.h.ac.length = h.ac.length
  hole : k < 5 → s.h.hole = h.hole
theorem coverS_ok {h : Hs} (ok : CovOK h) (i : Nat) {L : Int} (hL : 0 ≤ L) : ∀ k, CvOK h L (coverS h i L k) k
  | 0 => ⟨ok, hL, Int.le_refl _, rfl, rfl, fun _ => rfl⟩
  | k + 1 => by
    have r := coverS_ok ok i hL k
    have t := coverT_bd (h := (coverS h i L k).h) (i := i) r.l0 k
    refine ⟨r.ok.next r.l0 k, ?_, ?_, ?_, ?_, fun hk => ?_⟩
    · show 0 ≤ (coverS h i L k).left - coverT (coverS h i L k).h i (coverS h i L k).left k
      omega
    · show (coverS h i L k).left - coverT (coverS h i L k).h i (coverS h i L k).left k ≤ L
      have := r.l1
      omega
    · show ((coverS h i L k).nums.set k _).length = 5
      rw [List.length_set]; exact r.num
    · show (coverN _ _ _ _).ac.length = _
      rw [coverN_len]; exact r.acs
    · show (coverN _ _ _ _).hole = _
      rw [coverN_hole _ _ _ _ (by omega)]; exact r.hole (by omega)

section
variable {w : World} {base b ga ca cm ck : Nat} {pm pk : Option Addr} {h : Hs}
/-- The five sources, as functions. -/
def srcF : Nat → Nat
  | 0 => 47
  | 1 => 48
  | 2 => 49
  | 3 => 50
  | _ => 51
theorem Touch.fresh {O : Nat → Prop} {w w' : World} (h : Touch (fun k => O k ∨ w.heap.size ≤ k) w w') : Touch O w w' := ⟨h.os, h.tape, h.output, h.size, fun k hk hn => h.same k hk fun e => by
  rcases e with e | e
  · exact hn e
  · omega⟩
theorem source_any (hh : HouseAt w base b ga ca pm cm pk ck h) (ok : CovOK h) (i : Nat) (hi : i < h.ac.length) (A : Int) (hA0 : 0 ≤ A) (hA1 : A ≤ 4611686018427387904) (hh0 : 0 ≤ h.hole) (hh1 : h.hole < 4611686018427387904) (k : Nat) :
    Calls Try.prog (srcF k) #[.pointer (some ⟨b, 0, none⟩), .pointer (some ⟨ga, i * 15, none⟩), .int .u64 A] w fun e w' => e = .returned (.int .u64 (coverT h i A k)) ∧ HouseAt w' base b ga ca pm cm pk ck (coverN h i A k) ∧ Touch (fun k => k = ga ∨ k = b) w w' := by
  match k with
  | 0 =>
    obtain ⟨a, ha⟩ : ∃ a, h.ac[i]? = some a := ⟨_, List.getElem?_eq_getElem hi⟩
    have e : fundI h i = valF a := by unfold fundI; rw [ha]; rfl
    show Calls _ 47 _ _ fun e w' => e = .returned (.int .u64 (oneF A (fundI h i)).sum) ∧ HouseAt w' base b ga ca pm cm pk ck (ownH h i (fundI h i) A) ∧ _
    rw [e]
    exact (takeOwn_any hh ok.len i a ha A hA0 (by omega) (ok.fund a (List.mem_of_getElem? ha)) _).mono fun e w' ⟨h1, h2, h3⟩ => ⟨h1, h2, h3.mono fun k hk => .inl hk⟩
  | 1 => exact (takeCapital_any hh ok.pr A hA0 (by omega) ok.cap _).mono fun e w' ⟨h1, h2, h3⟩ => ⟨h1, h2, h3.mono fun k hk => .inr hk⟩
  | 2 => exact (takeFunds_any hh ok.len ok.few A hA0 (by omega) ok.fund _).mono fun e w' ⟨h1, h2, h3⟩ => ⟨h1, h2, h3.mono fun k hk => .inl hk⟩
  | 3 => exact (takeGains_any hh ok.len ok.few A hA0 (by omega) ok.cash _).mono fun e w' ⟨h1, h2, h3⟩ => ⟨h1, h2, h3.mono fun k hk => .inl hk⟩
  | k + 4 => exact (takeHole_any hh ok.pr A hA0 (by omega) (by omega) (by omega) _).mono fun e w' ⟨h1, h2, h3⟩ => ⟨h1, h2, h3.mono fun k hk => .inr hk⟩
end

end Go.Proofs.Ytmkpidipoadnbaa
