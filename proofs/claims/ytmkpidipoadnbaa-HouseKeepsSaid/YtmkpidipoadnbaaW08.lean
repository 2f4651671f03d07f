/- losses: the loss of each scenario. -/
import Derived.Test.YtmkpidipoadnbaaW07
namespace Go.Proofs.Ytmkpidipoadnbaa
open Go Go.RowKit Go.Sort

theorem flat_get {α : Type} {f : α → List Value} {k : Nat} (hf : ∀ x, (f x).length = k) : ∀ {l : List α} {i : Nat} {x : α} {j : Nat}, l[i]? = some x → j < k → (l.flatMap f)[i * k + j]? = (f x)[j]?
  | [], i, x, j, h, _ => by simp at h
  | y :: l, 0, x, j, h, hj => by
    simp at h; subst h
    rw [List.flatMap_cons, Nat.zero_mul, Nat.zero_add, List.getElem?_append_left (by rw [hf]; exact hj)]
  | y :: l, i + 1, x, j, h, hj => by
    rw [List.flatMap_cons, List.getElem?_append_right (by rw [hf, Nat.add_mul]; omega), hf, show (i + 1) * k + j - k = i * k + j by rw [Nat.add_mul]; omega]
    exact flat_get hf (by simpa using h) hj
theorem flat_length {α : Type} {f : α → List Value} {k : Nat} (hf : ∀ x, (f x).length = k) : ∀ (l : List α), (l.flatMap f).length = l.length * k
  | [] => by simp
  | x :: l => by rw [List.flatMap_cons, List.length_append, hf, flat_length hf l, List.length_cons, Nat.add_mul]; omega
theorem flat_take {α : Type} {f : α → List Value} {l : List α} {k : Nat} {x : α} (h : l[k]? = some x) : (l.take (k + 1)).flatMap f = (l.take k).flatMap f ++ f x := by
  obtain ⟨hk, he⟩ := List.getElem?_eq_some_iff.1 h
  rw [List.take_succ_eq_append_getElem hk, List.flatMap_append, he]
  simp
/-- One element's cells put in their place. -/
theorem flat_putAt {α : Type} {f : α → List Value} {k : Nat} (hf : ∀ x, (f x).length = k) {l : List α} {i : Nat} (x : α) (hi : i < l.length) : (putAt (l.flatMap f).toArray (i * k) (f x)).toList = (l.set i x).flatMap f := by
  apply List.ext_getElem?
  intro j
  rw [Array.getElem?_toList]
  have hsz : (putAt (l.flatMap f).toArray (i * k) (f x)).size = l.length * k := by rw [putAt_size]; simp [flat_length hf]
  by_cases hk : k = 0
  · subst hk
    rw [Array.getElem?_eq_none (by omega), List.getElem?_eq_none (by rw [flat_length hf]; omega)]
  have hkp : 0 < k := by omega
  have hbound : i * k + k ≤ l.length * k := by
    have : (i + 1) * k ≤ l.length * k := Nat.mul_le_mul_right k hi
    rw [Nat.add_mul] at this; omega
  by_cases hj : j < l.length * k
  · have hq : j / k < l.length := Nat.div_lt_of_lt_mul (by rw [Nat.mul_comm]; exact hj)
    have hr : j % k < k := Nat.mod_lt _ hkp
    have hd : j = j / k * k + j % k := by have := Nat.div_add_mod j k; rw [Nat.mul_comm] at this; omega
    by_cases hji : j / k = i
    · obtain ⟨y, hy⟩ : ∃ y, (l.set i x)[i]? = some y := ⟨x, by simp [hi]⟩
      have hyx : y = x := by simp [hi] at hy; exact hy.symm
      subst hyx
      rw [hd, hji, flat_get hf hy hr]
      exact putAt_in (f y) (i * k) _ (j % k) (by rw [hf]; simp [flat_length hf]; omega) (by rw [hf]; exact hr)
    · obtain ⟨y, hy⟩ : ∃ y, l[j / k]? = some y := ⟨_, List.getElem?_eq_getElem hq⟩
      have hy2 : (l.set i x)[j / k]? = some y := by rw [List.getElem?_set_ne (fun e => hji e.symm)]; exact hy
      rw [hd, flat_get hf hy2 hr, ← flat_get hf hy hr]
      rcases Nat.lt_or_gt_of_ne hji with h | h
      · have : (j / k + 1) * k ≤ i * k := Nat.mul_le_mul_right k h
        rw [Nat.add_mul] at this
        rw [putAt_below _ _ _ _ (by omega)]
        simp
      · have : (i + 1) * k ≤ j / k * k := Nat.mul_le_mul_right k h
        rw [Nat.add_mul] at this
        rw [putAt_above _ _ _ _ (by rw [hf]; omega)]
        simp
  · rw [Array.getElem?_eq_none (by omega), List.getElem?_eq_none (by rw [flat_length hf, List.length_set]; omega)]
theorem made_flat {α : Type} {f : α → List Value} {k n : Nat} (x : α) (hf : (f x).length = k) (_hk : 0 < k) : (madeCells (f x).toArray (n * k)).toList = (List.replicate n x).flatMap f := by
  unfold madeCells
  rw [Array.toList_map, Array.toList_range, List.size_toArray, hf]
  induction n with
  | zero => simp
  | succ n ih =>
    rw [Nat.add_mul, Nat.one_mul, List.range_add, List.map_append, ih, List.replicate_succ', List.flatMap_append]
    congr 1
    apply List.ext_getElem?
    intro j
    simp only [List.map_map, List.flatMap_cons, List.flatMap_nil, List.append_nil]
    by_cases hj : j < k
    · rw [List.getElem?_map, List.getElem?_range hj]
      simp [Nat.add_mod, Nat.mod_eq_of_lt hj, hf, hj]
    · rw [List.getElem?_eq_none (by simp; omega), List.getElem?_eq_none (by omega)]

/-- A member's account. -/
structure Ac where
  cash : Int
  fund : Int
  pos : List Int
  out : Bool
abbrev Kt := Int × Int × Int × Int × Int
/-- A house. -/
structure Hs where
  ac : List Ac
  months : Nat
  prices : List Int
  moves : List (List Int)
  rate : Int
  capital : Int
  hole : Int
  ks : List Kt

def encW (x : Int) : List Value := [.int .i64 (hiW x), .int .u64 (loW x)]
def encM (l : List Int) : List Value := (l.map (Value.int .i64)).take 12 ++ List.replicate (12 - l.length) (.int .i64 0)
def encA (a : Ac) : List Value := .int .i64 a.cash :: .int .i64 a.fund :: (encM a.pos ++ [.bool a.out])
def encK (k : Kt) : List Value := [.int .i64 k.1, .int .i64 k.2.1, .int .i64 k.2.2.1, .int .i64 k.2.2.2.1, .int .i64 k.2.2.2.2]

theorem encW_len (x : Int) : (encW x).length = 2 := rfl
theorem encM_len (l : List Int) : (encM l).length = 12 := by unfold encM; simp; omega
theorem encA_len (a : Ac) : (encA a).length = 15 := by unfold encA; simp [encM_len]
theorem encK_len (k : Kt) : (encK k).length = 5 := rfl
theorem encM_full {l : List Int} (h : l.length = 12) : encM l = l.map (Value.int .i64) := by
  unfold encM
  rw [h, List.take_of_length_le (by simp; omega)]
  simp

/-- The block of a house: its accounts, moves and contracts lie elsewhere. -/
def houseCells (h : Hs) (ga ca : Nat) (pm : Option Addr) (cm : Nat) (pk : Option Addr) (ck : Nat) : Array Value :=
  (.slice (some ⟨ga, 0, none⟩) h.ac.length ca :: .int .i64 h.months :: (h.prices.map (Value.int .i64) ++ [.slice pm h.moves.length cm, .int .i64 h.rate, .int .i64 h.capital, .int .i64 h.hole, .slice pk h.ks.length ck])).toArray

end Go.Proofs.Ytmkpidipoadnbaa

namespace Go.Proofs.Ytmkpidipoadnbaa
open Go Go.RowKit Go.Sort

def lossesT (moves : List (List Int)) (pos : List Int) : List Int := moves.map fun m => 0 - dotT pos m
theorem losses_len (moves : List (List Int)) (pos : List Int) : (lossesT moves pos).length = moves.length := by simp [lossesT]

theorem CellsAt.range {α : Type} {f : α → List Value} {k : Nat} (hf : ∀ x, (f x).length = k) {w : World} {g off : Nat} {l : List α} {i : Nat} {x : α} (h : CellsAt w (some ⟨g, off, none⟩) (l.flatMap f)) (hx : l[i]? = some x) : w.rangeAt g (off + i * k) (f x) := fun j v hj => by
  have hjk : j < k := by have := (List.getElem?_eq_some_iff.1 hj).1; rw [hf] at this; exact this
  obtain ⟨g', off', e, hc⟩ := h (i * k + j) v (by rw [flat_get hf hx hjk]; exact hj)
  injection e with e
  injection e with e1 e2
  subst e1; subst e2
  rw [Nat.add_assoc]
  exact hc
theorem flatW_set {l : List Int} {i : Nat} (x : Int) (hi : i < l.length) : ((l.flatMap encW).set (i * 2) (.int .i64 (hiW x))).set (i * 2 + 1) (.int .u64 (loW x)) = (l.set i x).flatMap encW := by
  have h := flat_putAt (f := encW) (k := 2) (fun _ => rfl) (l := l) x hi
  simp only [encW, putAt] at h
  rw [← h]
  simp []

theorem info_wide : (Try.prog.info? 89).map (fun i => (i.zero, i.size, i.bytes)) = some (some (.agg #[.int .i64 0, .int .u64 0]), 2, 16) := by kernel_rfl

/-- What losses returns. -/
def RowW (w : World) (base : Nat) (v : Value) (l : List Int) : Prop := w.ownsRow base 89 2 v l.length (l.flatMap encW)
def LossGot (moves : List (List Int)) (pos : List Int) (w : World) (e : Ending) (w' : World) : Prop := ∃ g c, e = .returned (.slice (some ⟨g, 0, none⟩) moves.length c) ∧ RowW w' w.heap.size (.slice (some ⟨g, 0, none⟩) moves.length c) (lossesT moves pos) ∧ Adds w w'

set_option maxRecDepth 100000 in
set_option maxHeartbeats 4000000 in
theorem losses_any (b cm : Nat) (pm : Option Addr) (moves : List (List Int)) (pos : List Int) (w : World) (h3 : w.cell? ⟨b, 14, none⟩ = some (.slice pm moves.length cm)) (hM : CellsAt w pm (moves.flatMap encM)) (hn : moves.length ≤ 64) (hml : ∀ m ∈ moves, m.length = 12 ∧ Few 4294967296 m)
    (hl : pos.length = 12) (hp : Few 2305843009213693952 pos) :
    Calls Try.prog 58 #[.pointer (some ⟨b, 0, none⟩), monthV pos] w (LossGot moves pos w) := by
  have HTI := Lib.hid (fun (m : List Int) (hm : m ∈ moves) (w : World) => times12_any pos m w hl (hml m hm).1 hp (hml m hm).2)
  have HIN := Lib.hid (fun (m : List Int) (hm : m ∈ moves) => by
    have := dot_in hp (hml m hm).2 (by omega) 12
    rw [List.take_of_length_le (by omega), List.take_of_length_le (by have := (hml m hm).1; omega)] at this
    exact this)
  have HML := Lib.hid hml
  have HM := Lib.hid hM
  have HL := Lib.hid hl
  have H3 := Lib.hid h3
  obtain ⟨i0, hi, hi0, hi1, hi2⟩ := info_parts info_wide
  have HI := Lib.hid hi
  have HI0 := Lib.hid hi0
  have HI1 := Lib.hid hi1
  have HI2 := Lib.hid hi2
  obtain ⟨n, hnn⟩ : ∃ n, n = moves.length := ⟨_, rfl⟩
  rw [← hnn] at h3 hn
  have HN := Lib.hid hnn
  unfold monthV at *
  obtain ⟨pv, hpv⟩ : ∃ v, v = (pos.map (Value.int .i64)).toArray := ⟨_, rfl⟩
  rw [← hpv] at HTI ⊢
  have HPV := Lib.hid hpv
  have hlt := cell_lt h3
  clear hi hi0 hi1 hi2 hl hp hml hM hnn hpv
  go_enter Try.func58, Try.ntmps58
  go_upto_region 1 with fail
  have k0 := Box.new w pv 61
  have hA : Adds w (w.alloc (.cells pv 61)) := (Adds.refl w).alloc _
  obtain ⟨W, hW⟩ : ∃ V, V = w.alloc (.cells pv 61) := ⟨_, rfl⟩
  rw [← hW] at k0 hA ⊢
  obtain ⟨s, hs⟩ : ∃ s, s = w.heap.size := ⟨_, rfl⟩
  rw [← hs] at k0 ⊢
  have c14 : W.cell? ⟨b, 14, none⟩ = some (.slice pm n cm) := keep_cell hA h3
  have HA := Lib.hid hA
  have K0 := Lib.hid k0
  have HS := Lib.hid hs
  have hsz := hA.size
  clear hW hs k0 hA h3
  go_upto_region 2 with (refine wpList_make_full _ rfl _ _ 111 rfl w.heap.size 89 i0 (.agg #[.int .i64 0, .int .u64 0]) 2 Try.underlying111 HI.out HI0.out HI1.out .i64 .i64 (n : Int) (n : Int) n rfl rfl rfl rfl (by rw [HI2.out]; omega) (by unfold maxLen; omega) hsz ?_; intro w1 ho hg; have HO := Lib.hid ho; have HG := Lib.hid hg; clear ho hg)
  have hA1 : Adds W w1 := ⟨HG.out.os, HG.out.tape, HG.out.output, HG.out.size, fun k hk => HG.out.block k hk (by simp)⟩
  have HA1 := Lib.hid hA1
  have d14 : w1.cell? ⟨b, 14, none⟩ = some (.slice pm n cm) := keep_cell hA1 c14
  have HO1 : Hid (w1.ownsRow w.heap.size 89 2 (.slice (some ⟨W.heap.size, 0, none⟩) n n) n ((List.replicate n 0).flatMap encW)) := Lib.hid (by
    have := HO.out
    rw [show (Value.agg #[.int .i64 0, .int .u64 0]).cells = (encW 0).toArray from rfl, made_flat (f := encW) (k := 2) 0 rfl (by omega)] at this
    exact this)
  obtain ⟨g, hg⟩ : ∃ g, g = W.heap.size := ⟨_, rfl⟩
  rw [← hg] at HO1 ⊢
  have HGG : Hid (s < g) := Lib.hid (by rw [hg]; exact K0.out.lt)
  clear hg c14 hA1 HO HG
  go_upto_region 3 with fail
  go_loopw [19] (fun v19 wr => ∃ k : Nat, k ≤ n ∧ v19 = .int .i64 k ∧ Hid (wr.ownsRow w.heap.size 89 2 (.slice (some ⟨g, 0, none⟩) n n) n ((lossesT (moves.take k) pos ++ List.replicate (n - k) 0).flatMap encW)) ∧ Hid (Box wr s pv 61) ∧ Hid (Adds w wr)) (fun v19 _ => n - (intOf v19).toNat)
  case atStart => exact ⟨0, by omega, rfl, Lib.hid (by simpa [lossesT] using HO1.out), Lib.hid (K0.out.later HA1.out), Lib.hid (HA.out.trans HA1.out)⟩
  case round =>
    obtain ⟨k, hk, rfl, RO, RB, RA⟩ := hrel
    clear HO1 d14
    by_cases hlt : k < n
    · have hlt2 : (k : Int) < (n : Int) := by omega
      have hk0 : (0 : Int) ≤ (k : Int) := by omega
      obtain ⟨m, hm⟩ : ∃ m, moves[k]? = some m := ⟨_, List.getElem?_eq_getElem (by have := HN.out; omega)⟩
      obtain ⟨gm, om, hpm⟩ := HM.out.addr (by rw [flat_length encM_len]; have := HN.out; omega)
      subst hpm
      have hmem := List.mem_of_getElem? hm
      have hR := ((HM.out.later RA.out).range encM_len hm)
      rw [encM_full (HML.out m hmem).1] at hR
      have HR := Lib.hid hR
      have HT := Lib.hid (HTI.out m hmem)
      have HMI := Lib.hid (HIN.out m hmem)
      have HMN := Lib.hid (fun w => minus_any 0 (dotT pos m) w (by unfold InW; omega) (HIN.out m hmem))
      unfold wideV at HT HMN
      rw [hi_zero, lo_zero] at HMN
      have hms : (m.map (Value.int .i64)).toArray.size = 12 := by simp [(HML.out m hmem).1]
      have HMS := Lib.hid hms
      have HMM := Lib.hid hm
      have HNX : Hid (((lossesT (moves.take k) pos ++ List.replicate (n - k) 0).set k (0 - dotT pos m)) = lossesT (moves.take (k + 1)) pos ++ List.replicate (n - (k + 1)) 0) := Lib.hid (by
        obtain ⟨hkl, he⟩ := List.getElem?_eq_some_iff.1 hm
        rw [List.take_succ_eq_append_getElem hkl, he, show n - k = (n - (k + 1)) + 1 by omega, List.replicate_succ]
        have h1 : (lossesT (moves.take k) pos).length = k := by simp [lossesT]; omega
        rw [List.set_append_right _ _ (by omega), h1, Nat.sub_self]
        simp [lossesT])
      have HEL : Hid ((lossesT (moves.take k) pos ++ List.replicate (n - k) 0)[k]? = some 0) := Lib.hid (by
        have h1 : (lossesT (moves.take k) pos).length = k := by simp [lossesT]; have := HN.out; omega
        rw [List.getElem?_append_right (by omega), h1, Nat.sub_self, List.getElem?_replicate, if_pos (by omega)])
      clear hR hmem hms hm
      go_upto_region 5 with (first
        | (refine wpList_load_mid rfl 61 _ rfl gm (om + k * 12) rfl (m.map (Value.int .i64)) _ HR.out Try.underlying61 rfl (by rw [info_month, ← HMS.out]; simp) ?_)
        | (refine wpList_store_mid rfl 61 _ _ rfl wr.heap.size 0 (m.map (Value.int .i64)).toArray rfl rfl ((Box.new wr _ _).there 0 _ (by rw [HMS.out]; simp)) (by rw [info_month, HMS.out]) (months_one _) ?_))
      have kx := (Box.new wr #[.int .i64 0, .int .i64 0, .int .i64 0, .int .i64 0, .int .i64 0, .int .i64 0, .int .i64 0, .int .i64 0, .int .i64 0, .int .i64 0, .int .i64 0, .int .i64 0] 61).setCells (m.map (Value.int .i64)).toArray.toList 0
      rw [putAt_whole _ _ (by rw [Array.length_toList, HMS.out]; rfl)] at kx
      have hAX : Adds wr ((wr.alloc (.cells #[.int .i64 0, .int .i64 0, .int .i64 0, .int .i64 0, .int .i64 0, .int .i64 0, .int .i64 0, .int .i64 0, .int .i64 0, .int .i64 0, .int .i64 0, .int .i64 0] 61)).setCells wr.heap.size 0 (m.map (Value.int .i64)).toArray.toList) := Adds.setCells (Nat.le_refl _) _ _ ((Adds.refl wr).alloc _)
      obtain ⟨W2, hW2⟩ : ∃ V, V = (wr.alloc (.cells #[.int .i64 0, .int .i64 0, .int .i64 0, .int .i64 0, .int .i64 0, .int .i64 0, .int .i64 0, .int .i64 0, .int .i64 0, .int .i64 0, .int .i64 0, .int .i64 0] 61)).setCells wr.heap.size 0 (m.map (Value.int .i64)).toArray.toList := ⟨_, rfl⟩
      rw [← hW2] at kx hAX ⊢
      rw [Array.toArray_toList] at kx
      have KX := Lib.hid kx
      have HAX := Lib.hid hAX
      have RO2 := Lib.hid (own_later RO.out hAX)
      have RB2 := Lib.hid (RB.out.later hAX)
      clear hW2 kx hAX
      obtain ⟨X, hX⟩ : ∃ X, X = wr.heap.size := ⟨_, rfl⟩
      rw [← hX] at KX ⊢
      clear hX
      go_wp2_with (first
        | (refine wpList_load_row rfl 61 _ rfl s rfl 61 pv (0, 0) _ RB2.out Try.underlying61 rfl (by rw [info_month, HPV.out]; simp [HL.out]) ?_)
        | (refine wpList_load_row rfl 61 _ rfl X rfl 61 (m.map (Value.int .i64)).toArray (0, 0) _ KX.out Try.underlying61 rfl (by rw [info_month, HMS.out]) ?_)
        | (go_at_call 55; refine (HT.out _).mono ?_; rintro e w4 ⟨rfl, ha⟩; have HA4 := Lib.hid ha; clear ha)
        | (go_at_call 66; refine (HMN.out _).mono ?_; rintro e w5 ⟨rfl, ha⟩; have hA5 := HA4.out.trans ha; have HA5 := Lib.hid hA5; have RO5 := Lib.hid (own_later RO2.out hA5); have q0 : w5.cell? ⟨g, k * 2, none⟩ = some (.int .i64 (hiW 0)) := (own_cell RO5.out (flat_get (j := 0) encW_len HEL.out (by omega))).1; have q1 : w5.cell? ⟨g, k * 2 + 1, none⟩ = some (.int .u64 (loW 0)) := (own_cell RO5.out (flat_get (j := 1) encW_len HEL.out (by omega))).1; have q2 : w5.frozen? ⟨g, k * 2, none⟩ = false := (own_cell RO5.out (flat_get (j := 0) encW_len HEL.out (by omega))).2; have q3 : w5.frozen? ⟨g, k * 2 + 1, none⟩ = false := (own_cell RO5.out (flat_get (j := 1) encW_len HEL.out (by omega))).2; clear ha hA5))
      refine ⟨⟨k + 1, by omega, by go_num, Lib.hid ?_, Lib.hid ?_, Lib.hid ?_⟩, by simp [intOf]; omega⟩
      · have h1 := own_put (j := k * 2 + 1) (own_put (j := k * 2) RO5.out (.int .i64 (hiW (0 - dotT pos m)))) (.int .u64 (loW (0 - dotT pos m)))
        rw [flatW_set (0 - dotT pos m) (by have h2 := (List.getElem?_eq_some_iff.1 HEL.out).1; exact h2), HNX.out] at h1
        simpa using h1
      · exact ((RB2.out.later HA5.out).far (by show s ≠ g; have := HGG.out; omega) _).far (by show s ≠ g; have := HGG.out; omega) _
      · exact ((((RA.out.trans HAX.out).trans HA5.out).set (by have := HGG.out; have := HS.out; show _ ≤ g; omega) _).set (by have := HGG.out; have := HS.out; show _ ≤ g; omega) _)
    · have hkk : k = n := by omega
      subst hkk
      have hdq : decide ((k : Int) < (k : Int)) = false := decide_eq_false (by omega)
      have e1 : moves.take k = moves := List.take_of_length_le (by have := HN.out; omega)
      rw [e1, Nat.sub_self] at RO
      clear e1 hlt
      go_wp2
      go_ret
      exact ⟨g, k, by rw [← HN.out]; rfl, by unfold RowW; rw [losses_len, ← HN.out]; simpa using RO.out, RA.out⟩

end Go.Proofs.Ytmkpidipoadnbaa
